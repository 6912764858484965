/- Reach: plain. Own work. -/
import Derived.Test.YtijdigdcmjdooaaGreatMxAM
import Derived.Test.YtijdigdcmjdooaaGreatMxAF
import Derived.Test.YtijdigdcmjdooaaGreatWaC
import Derived.Test.YtijdigdcmjdooaaGreatMxAI
namespace Go.Proofs.YtijdigdcmjdooaaGreat
open Go.RowKit

/-- A drive: the spot to which it has come, and what is left to drive from there. -/
abbrev Dv := (Int × Int × Int) × Int
def roomS (N : Nt) (s : Int × Int × Int) : Int := roomP N s.1 s.2.1 s.2.2
def spotS (N : Nt) (s : Int × Int × Int) : Bool := spotP N s.1 s.2.1 s.2.2
def sonsR (N : Nt) (c : Dv) : List Dv := (nxP N (headP c.1.1 c.1.2.2)).map fun e => (enterP N e, c.2 - roomS N c.1)
def endsR (N : Nt) (x : Dv) : Bool := decide (x.2 ≤ roomS N x.1)
def toldR (x : Dv) : Int × Int × Int := (x.1.1, x.1.2.1 + x.2 * x.1.2.2, x.1.2.2)
def addO {α : Type} [DecidableEq α] (l : List α) (x : α) : List α := if x ∈ l then l else l ++ [x]
def stepR (N : Nt) (st : List (Int × Int × Int) × List Dv) (x : Dv) : List (Int × Int × Int) × List Dv := if endsR N x then (addO st.1 (toldR x), st.2) else (st.1, addO st.2 x)
def runR (N : Nt) (st : List (Int × Int × Int) × List Dv) (xs : List Dv) : List (Int × Int × Int) × List Dv := xs.foldl (stepR N) st
def candsR (N : Nt) (line : List Dv) : List Dv := line.flatMap (sonsR N)
def roundR (N : Nt) (out : List (Int × Int × Int)) (line : List Dv) : List (Int × Int × Int) × List Dv := runR N (out, []) (candsR N line)
def muchR (st : List (Int × Int × Int) × List Dv) : Bool := decide (200 < st.1.length) || decide (1000 < st.2.length)
/-- What is told when so many rounds may still come to an end; none: too much. -/
def goR (N : Nt) : Nat → List (Int × Int × Int) → List Dv → Option (List (Int × Int × Int))
  | _, out, [] => some out
  | 0, _, _ :: _ => none
  | k + 1, out, c :: line => if muchR (roundR N out (c :: line)) then none else goR N k (roundR N out (c :: line)).1 (roundR N out (c :: line)).2
theorem goR_nil (N : Nt) (k : Nat) (out) : goR N k out [] = some out := by cases k <;> rfl
theorem goR_zero (N : Nt) (out) {line : List Dv} (h : line ≠ []) : goR N 0 out line = none := by
  cases line with
  | nil => exact absurd rfl h
  | cons c l => rfl
theorem goR_much {N : Nt} {k : Nat} {out} {line : List Dv} (h : line ≠ []) (hm : muchR (roundR N out line) = true) : goR N k out line = none := by
  cases line with
  | nil => exact absurd rfl h
  | cons c l =>
    cases k with
    | zero => rfl
    | succ k => rw [goR, if_pos hm]
theorem goR_on {N : Nt} {k : Nat} {out} {line : List Dv} (h : line ≠ []) (hm : muchR (roundR N out line) = false) : goR N (k + 1) out line = goR N k (roundR N out line).1 (roundR N out line).2 := by
  cases line with
  | nil => exact absurd rfl h
  | cons c l => rw [goR, hm]; rfl
/-- The order of spots. -/
def ltS (a b : Int × Int × Int) : Bool := if a.1 ≠ b.1 then decide (a.1 < b.1) else if a.2.1 ≠ b.2.1 then decide (a.2.1 < b.2.1) else decide (a.2.2 < b.2.2)
def leS (a b : Int × Int × Int) : Bool := !ltS b a
/-- What is told at a right spot. -/
def reachR (N : Nt) (s : Int × Int × Int) (far : Int) : List (Int × Int × Int) :=
  match goR N 1000 (stepR N ([], []) (s, far)).1 (stepR N ([], []) (s, far)).2 with
  | none => []
  | some out => out.mergeSort leS
def reachP (N : Nt) (s : Int × Int × Int) (far : Int) : List (Int × Int × Int) := if (decide (netOk N = (0, 0)) && spotS N s) && inR far 0 1000000 then reachR N s far else []

/-! ### Lists without doubles -/
theorem addO_nodup {α : Type} [DecidableEq α] {l : List α} (h : l.Nodup) (x : α) : (addO l x).Nodup := by
  unfold addO
  split
  · exact h
  · rename_i hx
    exact List.nodup_append.2 ⟨h, by simp, fun a ha b hb => by simp at hb; subst hb; exact fun e => hx (e ▸ ha)⟩
theorem mem_addO {α : Type} [DecidableEq α] {l : List α} {x y : α} : y ∈ addO l x ↔ y ∈ l ∨ y = x := by
  unfold addO
  split
  · rename_i h
    exact ⟨.inl, fun h' => h'.elim id (fun e => e ▸ h)⟩
  · simp
theorem addO_in {α : Type} [DecidableEq α] {l : List α} {x : α} (h : x ∈ l) : addO l x = l := if_pos h
theorem addO_new {α : Type} [DecidableEq α] {l : List α} {x : α} (h : x ∉ l) : addO l x = l ++ [x] := if_neg h
theorem addO_len {α : Type} [DecidableEq α] (l : List α) (x : α) : l.length ≤ (addO l x).length ∧ (addO l x).length ≤ l.length + 1 := by
  unfold addO
  split <;> simp

/-! ### What has been seen in a round -/
structure SeenI (N : Nt) (seen : List Dv) (st : List (Int × Int × Int) × List Dv) : Prop where
  told : ∀ x ∈ seen, endsR N x = true → toldR x ∈ st.1
  went : ∀ x ∈ seen, endsR N x = false → x ∈ st.2
  all : ∀ x ∈ st.2, x ∈ seen
theorem SeenI.start (N : Nt) (out) : SeenI N [] (out, []) := ⟨by simp, by simp, by simp⟩
theorem SeenI.old {N : Nt} {seen : List Dv} {st} (h : SeenI N seen st) {x : Dv} (hx : x ∈ seen) : stepR N st x = st := by
  unfold stepR
  split
  · rename_i he
    rw [addO_in (h.told x hx he)]
  · rename_i he
    rw [addO_in (h.went x hx (by simpa using he))]
theorem SeenI.new_go {N : Nt} {seen : List Dv} {st} (h : SeenI N seen st) {x : Dv} (hx : x ∉ seen) (he : endsR N x = false) : stepR N st x = (st.1, st.2 ++ [x]) := by
  unfold stepR
  rw [he, if_neg (by simp), addO_new (fun hm => hx (h.all x hm))]
theorem step_end {N : Nt} {st} {x : Dv} (he : endsR N x = true) : stepR N st x = (addO st.1 (toldR x), st.2) := if_pos he
theorem step_go {N : Nt} {st} {x : Dv} (he : endsR N x = false) : stepR N st x = (st.1, addO st.2 x) := if_neg (by rw [he]; simp)
theorem SeenI.step {N : Nt} {seen : List Dv} {st} (h : SeenI N seen st) (x : Dv) : SeenI N (x :: seen) (stepR N st x) := by
  cases he : endsR N x with
  | true =>
    rw [step_end he]
    refine ⟨fun y hy hy' => mem_addO.2 ?_, fun y hy hy' => ?_, fun y hy => List.mem_cons_of_mem _ (h.all y hy)⟩
    · rcases List.mem_cons.1 hy with rfl | hy
      · exact .inr rfl
      · exact .inl (h.told y hy hy')
    · rcases List.mem_cons.1 hy with rfl | hy
      · rw [he] at hy'; cases hy'
      · exact h.went y hy hy'
  | false =>
    rw [step_go he]
    refine ⟨fun y hy hy' => ?_, fun y hy hy' => mem_addO.2 ?_, fun y hy => ?_⟩
    · rcases List.mem_cons.1 hy with rfl | hy
      · rw [he] at hy'; cases hy'
      · exact h.told y hy hy'
    · rcases List.mem_cons.1 hy with rfl | hy
      · exact .inr rfl
      · exact .inl (h.went y hy hy')
    · rcases mem_addO.1 hy with hy | rfl
      · exact List.mem_cons_of_mem _ (h.all y hy)
      · exact List.mem_cons_self ..

/-! ### What is right all along -/
structure DvOk (N : Nt) (F : Int) (x : Dv) : Prop where
  spot : spotS N x.1 = true
  left : 0 ≤ x.2 ∧ x.2 ≤ F
/-- The state of a round: so many drives have been looked at. -/
structure RdI (N : Nt) (F : Int) (n m : Nat) (st : List (Int × Int × Int) × List Dv) : Prop where
  out : ∀ s ∈ st.1, spotS N s = true
  nd : st.1.Nodup
  line : ∀ x ∈ st.2, DvOk N F x ∧ endsR N x = false
  few : st.1.length ≤ n
  fewL : st.2.length ≤ m
theorem spot_facts {N : Nt} {s : Int × Int × Int} (h : spotS N s = true) : 0 ≤ s.1 ∧ s.1 < N.pcs.length ∧ (s.2.2 = 1 ∨ s.2.2 = -1) ∧ 0 ≤ s.2.1 ∧ s.2.1 ≤ lenAt N s.1 := by
  simp only [spotS, spotP, inR, Bool.and_eq_true, decide_eq_true_eq, Bool.or_eq_true, beq_iff_eq] at h
  omega
theorem spot_of {N : Nt} {s : Int × Int × Int} (h : 0 ≤ s.1 ∧ s.1 < N.pcs.length ∧ (s.2.2 = 1 ∨ s.2.2 = -1) ∧ 0 ≤ s.2.1 ∧ s.2.1 ≤ lenAt N s.1) : spotS N s = true := by
  simp only [spotS, spotP, inR, Bool.and_eq_true, decide_eq_true_eq, Bool.or_eq_true, beq_iff_eq]
  omega
theorem told_ok {N : Nt} {F : Int} {x : Dv} (h : DvOk N F x) (he : endsR N x = true) : spotS N (toldR x) = true := by
  have hs := spot_facts h.spot
  have hl := h.left
  obtain ⟨⟨q, a, y⟩, l⟩ := x
  simp only [endsR, roomS, roomP, decide_eq_true_eq] at he
  refine spot_of ?_
  unfold toldR
  dsimp only at *
  rcases hs.2.2.1 with rfl | rfl
  · rw [if_pos rfl] at he
    omega
  · rw [if_neg (by decide)] at he
    omega
theorem RdI.step {N : Nt} {F : Int} {n m : Nat} {st} (h : RdI N F n m st) {x : Dv} (hx : DvOk N F x) : RdI N F (n + 1) (m + 1) (stepR N st x) := by
  cases he : endsR N x with
  | true =>
    rw [step_end he]
    refine ⟨fun s hs => ?_, addO_nodup h.nd _, h.line, Nat.le_trans (addO_len _ _).2 (Nat.succ_le_succ h.few), Nat.le_succ_of_le h.fewL⟩
    rcases mem_addO.1 hs with hs | rfl
    · exact h.out s hs
    · exact told_ok hx he
  | false =>
    rw [step_go he]
    refine ⟨h.out, h.nd, fun y hy => ?_, Nat.le_succ_of_le h.few, Nat.le_trans (addO_len _ _).2 (Nat.succ_le_succ h.fewL)⟩
    rcases mem_addO.1 hy with hy | rfl
    · exact h.line y hy
    · exact ⟨hx, he⟩
theorem sons_ok {N : Nt} (hr : netOk N = (0, 0)) {F : Int} {c : Dv} (h : DvOk N F c) (he : endsR N c = false) : ∀ x ∈ sonsR N c, DvOk N F x ∧ 0 < x.2 := by
  intro x hx
  obtain ⟨e, hm, rfl⟩ := List.mem_map.1 hx
  have hs := spot_facts h.spot
  have hok := enterP_ok hr ((grN N hr).ok _ e hm)
  simp only [endsR, decide_eq_false_iff_not] at he
  have hroom : 0 ≤ roomS N c.1 := by
    unfold roomS roomP
    split <;> omega
  have hl := h.left
  exact ⟨⟨hok, by dsimp only; omega, by dsimp only; omega⟩, by dsimp only; omega⟩
theorem sons_len (N : Nt) (c : Dv) : (sonsR N c).length ≤ 2 := by
  unfold sonsR
  rw [List.length_map]
  unfold nxP
  split
  · exact acr_len _ _
  · simp
theorem room_le' {N : Nt} (hr : netOk N = (0, 0)) {s : Int × Int × Int} (h : spotS N s = true) : 0 ≤ roomS N s ∧ roomS N s ≤ 10000000 := by
  have hs := spot_facts h
  have hl := lenAt_pos hr s.1 hs.1 hs.2.1
  unfold roomS roomP
  split <;> omega
/-! ### The order -/
theorem ltS_iff {a b : Int × Int × Int} : ltS a b = true ↔ a.1 < b.1 ∨ (a.1 = b.1 ∧ (a.2.1 < b.2.1 ∨ (a.2.1 = b.2.1 ∧ a.2.2 < b.2.2))) := by
  unfold ltS
  split
  · rw [decide_eq_true_eq]; omega
  · split
    · rw [decide_eq_true_eq]; omega
    · rw [decide_eq_true_eq]; omega
theorem leS_iff {a b : Int × Int × Int} : leS a b = true ↔ ¬ (b.1 < a.1 ∨ (b.1 = a.1 ∧ (b.2.1 < a.2.1 ∨ (b.2.1 = a.2.1 ∧ b.2.2 < a.2.2)))) := by
  unfold leS
  rw [Bool.not_eq_true', Bool.eq_false_iff, Ne, ltS_iff]
theorem leS_trans (a b c : Int × Int × Int) (h : leS a b = true) (h' : leS b c = true) : leS a c = true := by
  rw [leS_iff] at *
  omega
theorem leS_total (a b : Int × Int × Int) : (leS a b || leS b a) = true := by
  rw [Bool.or_eq_true, leS_iff, leS_iff]
  omega
theorem leS_anti {a b : Int × Int × Int} (h : leS a b = true) (h' : leS b a = true) : a = b := by
  rw [leS_iff] at *
  exact Prod.ext (by omega) (Prod.ext (by omega) (by omega))
/-- A sorted list of what was told is the answer's list. -/
theorem sorted_one {l out : List (Int × Int × Int)} (hp : l.Perm out) (hs : l.Pairwise (fun a b => leS a b = true)) : l = out.mergeSort leS :=
  List.Perm.eq_of_pairwise (le := fun a b => leS a b = true) (fun _ _ _ _ h1 h2 => leS_anti h1 h2) hs (List.pairwise_mergeSort leS_trans leS_total out) (hp.trans (List.mergeSort_perm out leS).symm)
end Go.Proofs.YtijdigdcmjdooaaGreat

/- Reach: the map of the spots that were told, the map of the drives that came. Own work. -/
namespace Go.Proofs.YtijdigdcmjdooaaGreat
open Go.RowKit Go.Maps Go.Joins
set_option maxRecDepth 100000

def WfS (s : Int × Int × Int) : Prop := (Lit.int .i64 s.1).wf = true ∧ (Lit.int .i64 s.2.1).wf = true ∧ (Lit.int .i64 s.2.2).wf = true
def WfD (x : Dv) : Prop := WfS x.1 ∧ (Lit.int .i64 x.2).wf = true
def spV (s : Int × Int × Int) : Value := .agg #[.int .i64 s.1, .int .i64 s.2.1, .int .i64 s.2.2]
def dvV (x : Dv) : Value := .agg #[.int .i64 x.1.1, .int .i64 x.1.2.1, .int .i64 x.1.2.2, .int .i64 x.2]
theorem spV_inj {a b : Int × Int × Int} (h : spV a = spV b) : a = b := by
  simp [spV] at h
  exact Prod.ext h.1 (Prod.ext h.2.1 h.2.2)
theorem dvV_inj {a b : Dv} (h : dvV a = dvV b) : a = b := by
  simp [dvV] at h
  exact Prod.ext (Prod.ext h.1 (Prod.ext h.2.1 h.2.2.1)) h.2.2.2

/-! ### Spots as keys -/
theorem rowSp : (29 : TypeId) < Tryz.prog.types.size := of_decide_eq_true (by kernel_rfl)
theorem wideSp : (match Tryz.prog.underlying 29 with | some (.array _ _) | some (.struct _) => true | _ => false) = true := by rw [Tryz.underlying29]
theorem deepSp : Tryz.prog.keyTypeAt (Tryz.prog.types.size + 1) 29 = true := by kernel_rfl
theorem cellsSp : Tryz.prog.cellsOf 29 = 3 := by kernel_rfl
theorem cellsIn : Tryz.prog.cellsOf 3 = 1 := by kernel_rfl
set_option maxRecDepth 100000 in
theorem klawSp : WideMaps.KeyLaw Tryz.prog 29 := deep_law_laid Tryz.laidOut (m := 2) (by omega) rowSp (by kernel_rfl) wideSp
theorem lawSp : Keyed Tryz.prog 29 := Keyed.of_law klawSp
theorem typesMany : ∃ n, Tryz.prog.types.size = n + 2 := ⟨Tryz.prog.types.size - 2, by have h : 2 ≤ Tryz.prog.types.size := of_decide_eq_true (by kernel_rfl); omega⟩
theorem litsSp {n : Nat} {a b c : Int} (ha : (Lit.int .i64 a).wf = true) (hb : (Lit.int .i64 b).wf = true) (hc : (Lit.int .i64 c).wf = true) : Tryz.prog.keyLits (n + 2) 29 [.int .i64 a, .int .i64 b, .int .i64 c] = some [.int .i64 a, .int .i64 b, .int .i64 c] := by
  simp [Program.keyLits, Tryz.underlying29, Tryz.underlying3, cellsSp, cellsIn, ha, hb, hc]
theorem keySp {s : Int × Int × Int} (hw : WfS s) : ∃ kl, keyOf Tryz.prog 29 (spV s) = some kl := by
  obtain ⟨n, hn⟩ := typesMany
  have hd : Tryz.prog.keyType 29 = true := deepSp
  have hf : (spV s).formed Tryz.prog 29 = true := by simp [spV, Value.formed, Tryz.underlying29, cellsSp]
  have hl : Tryz.prog.keyLits (Tryz.prog.types.size + 1) 29 (spV s).cells.toList = some [.int .i64 s.1, .int .i64 s.2.1, .int .i64 s.2.2] := by
    rw [hn]
    exact litsSp (n := n + 1) hw.1 hw.2.1 hw.2.2
  unfold keyOf
  rw [Tryz.underlying29]
  dsimp only
  rw [hd, hf, hl]
  exact ⟨_, rfl⟩
theorem keySp_inv {v : Value} {kl : Lit} (h : keyOf Tryz.prog 29 v = some kl) : ∃ s, v = spV s ∧ WfS s := by
  obtain ⟨n, hn⟩ := typesMany
  unfold keyOf at h
  rw [Tryz.underlying29] at h
  dsimp only at h
  split at h
  · rename_i hc
    rw [Bool.and_eq_true] at hc
    have hf := hc.2
    rw [hn] at h
    obtain ⟨ls, hls, _⟩ := Option.map_eq_some_iff.1 h
    cases v <;> simp [Value.formed, Tryz.underlying29, cellsSp] at hf
    rename_i xs
    obtain ⟨xs⟩ := xs
    simp [Value.cells] at hls hf
    match xs, hf, hls with
    | [a, b, c], _, hls =>
      simp [Program.keyLits, Tryz.underlying29, Tryz.underlying3, cellsSp, cellsIn] at hls
      cases a <;> simp at hls
      rename_i ka a
      split at hls <;> try (simp at hls)
      rename_i hka
      cases b <;> simp at hls
      rename_i kb b
      split at hls <;> try (simp at hls)
      rename_i hkb
      cases c <;> simp at hls
      rename_i kc c
      split at hls <;> try (simp at hls)
      rename_i hkc
      obtain ⟨rfl, h1⟩ := hka
      obtain ⟨rfl, h2⟩ := hkb
      obtain ⟨rfl, h3⟩ := hkc
      exact ⟨(_, _, _), rfl, h1, h2, h3⟩
  · cases h
/-! ### Drives as keys -/
theorem rowGo : (78 : TypeId) < Tryz.prog.types.size := of_decide_eq_true (by kernel_rfl)
theorem wideGo : (match Tryz.prog.underlying 78 with | some (.array _ _) | some (.struct _) => true | _ => false) = true := by rw [Tryz.underlying78]
theorem deepGo : Tryz.prog.keyTypeAt (Tryz.prog.types.size + 1) 78 = true := by kernel_rfl
theorem cellsGo : Tryz.prog.cellsOf 78 = 4 := by kernel_rfl
set_option maxRecDepth 100000 in
theorem klawGo : WideMaps.KeyLaw Tryz.prog 78 := deep_law_laid Tryz.laidOut (m := 3) (by omega) rowGo (by kernel_rfl) wideGo
theorem lawGo : Keyed Tryz.prog 78 := Keyed.of_law klawGo
theorem litsIn {n : Nat} {a : Int} (ha : (Lit.int .i64 a).wf = true) : Tryz.prog.keyLits (n + 1) 3 [.int .i64 a] = some [.int .i64 a] := by
  simp [Program.keyLits, Tryz.underlying3, ha]
theorem keyGo {x : Dv} (hw : WfD x) : ∃ kl, keyOf Tryz.prog 78 (dvV x) = some kl := by
  obtain ⟨n, hn⟩ := typesMany
  have hd : Tryz.prog.keyType 78 = true := deepGo
  have hf : (dvV x).formed Tryz.prog 78 = true := by simp [dvV, Value.formed, Tryz.underlying78, cellsGo]
  have hl : Tryz.prog.keyLits (Tryz.prog.types.size + 1) 78 (dvV x).cells.toList = some [.int .i64 x.1.1, .int .i64 x.1.2.1, .int .i64 x.1.2.2, .int .i64 x.2] := by
    rw [hn]
    show Tryz.prog.keyLits (n + 1 + 1 + 1) 78 [.int .i64 x.1.1, .int .i64 x.1.2.1, .int .i64 x.1.2.2, .int .i64 x.2] = _
    simp [Program.keyLits, Tryz.underlying78, Tryz.underlying29, Tryz.underlying3, cellsGo, cellsSp, cellsIn, hw.1.1, hw.1.2.1, hw.1.2.2, hw.2]
    rw [if_pos (by decide)]
    rfl
  unfold keyOf
  rw [Tryz.underlying78]
  dsimp only
  rw [hd, hf, hl]
  exact ⟨_, rfl⟩

/-! ### The spots that were told -/
def TM (w : World) (b n : Nat) (out : List (Int × Int × Int)) : Prop :=
  ∃ D : DataW Unit, w.ownsMap Tryz.prog 29 (plainElem Tryz.prog 3) b n D ∧ Maps.size D = out.length ∧ ∀ s kl, keyOf Tryz.prog 29 (spV s) = some kl → Maps.has D kl = decide (s ∈ out)
theorem TM.made (w : World) : TM (w.alloc (.map #[] 0)) w.heap.size 0 [] :=
  ⟨_, World.ownsMap_made w _ _ _, rfl, fun _ _ _ => by simp [Maps.has]⟩
theorem TM.of_block {w w' : World} {b n out} (h : TM w b n out) (e : w'.heap[b]? = w.heap[b]?) : TM w' b n out := by
  obtain ⟨D, ⟨es, clock, hb, h2⟩, h3⟩ := h
  exact ⟨D, ⟨es, clock, e.trans hb, h2⟩, h3⟩
theorem TM.lt {w : World} {b n out} (h : TM w b n out) : b < w.heap.size := by
  obtain ⟨D, h, _⟩ := h
  exact h.lt
theorem TM.look {w : World} {b n out} (h : TM w b n out) {s : Int × Int × Int} (hw : WfS s) :
    ∃ c, (Instr.lookup 72 (.map (some b)) (spV s) false).run Tryz.prog w = .ok (.int .i64 c) w ∧ (Lit.int .i64 c).wf = true := by
  obtain ⟨D, hown, _⟩ := h
  obtain ⟨kl, hkl⟩ := keySp hw
  obtain ⟨c, hrun, _, hc⟩ := hown.lookup_int lawSp Tryz.underlying72 Tryz.underlying3 (zeroI _) hkl
  exact ⟨c, hrun, hc⟩
theorem TM.put {w : World} {b n out} (h : TM w b n out) (hn : n < maxLen) {s : Int × Int × Int} (hw : WfS s) {c : Int} (hc : (Lit.int .i64 c).wf = true) :
    ∃ w', (Instr.mapUpdate 72 (.map (some b)) (spV s) (.int .i64 c)).run Tryz.prog w = .ok () w' ∧ TM w' b (n + 1) (addO out s) ∧ w.grownBy w' (some b) := by
  obtain ⟨D, hown, hsz, hD⟩ := h
  obtain ⟨kl, hkl⟩ := keySp hw
  obtain ⟨w', hrun, hown', hg⟩ := hown.update lawSp Tryz.underlying72 hn hkl (plainElem_int Tryz.underlying3 hc)
  refine ⟨w', hrun, ⟨_, hown', ?_, fun t kl' hkl' => ?_⟩, hg⟩
  · rw [size_put (hown.tidy lawSp), hD s kl hkl, hsz]
    by_cases hm : s ∈ out
    · rw [addO_in hm]; simp [hm]
    · rw [addO_new hm]; simp [hm]
  · by_cases he : t = s
    · subst he
      obtain rfl : kl = kl' := by rw [hkl] at hkl'; exact Option.some.inj hkl'
      rw [has_put_same hown.isMap (lawSp.key hkl)]
      exact (decide_eq_true (mem_addO.2 (.inr rfl))).symm
    · have hne : kl' ≠ kl := by
        intro hk
        subst hk
        exact he (spV_inj (lawSp.inj hkl' hkl))
      rw [has_put_other hne, hD t kl' hkl']
      have e : (t ∈ addO out s) = (t ∈ out) := propext (by rw [mem_addO]; simp [he])
      simp only [e]
theorem TM.len {w : World} {b n out} (h : TM w b n out) (ty : TypeId) : (Builtin.len_ #[72] ty #[.map (some b)]).run Tryz.prog w = .ok (.int .i64 (out.length : Nat)) w := by
  obtain ⟨D, hown, hsz, _⟩ := h
  rw [hown.len Tryz.underlying72, hsz]
/-! ### The drives that came -/
def CM (w : World) (b n : Nat) (seen : List Dv) : Prop :=
  ∃ (D : DataW Unit) (f : Dv → Nat), w.ownsMap Tryz.prog 78 (plainElem Tryz.prog 3) b n D ∧ (∀ x kl, keyOf Tryz.prog 78 (dvV x) = some kl → D.atKey kl (.lit (.int .i64 0)) = .lit (.int .i64 (f x : Nat))) ∧ (∀ x, f x = 0 ↔ x ∉ seen) ∧ ∀ x, f x ≤ n
theorem CM.made (w : World) : CM (w.alloc (.map #[] 0)) w.heap.size 0 [] :=
  ⟨_, fun _ => 0, World.ownsMap_made w _ _ _, fun _ _ _ => rfl, fun _ => by simp, fun _ => Nat.le_refl _⟩
theorem CM.of_block {w w' : World} {b n seen} (h : CM w b n seen) (e : w'.heap[b]? = w.heap[b]?) : CM w' b n seen := by
  obtain ⟨D, f, ⟨es, clock, hb, h2⟩, h3⟩ := h
  exact ⟨D, f, ⟨es, clock, e.trans hb, h2⟩, h3⟩
theorem CM.lt {w : World} {b n seen} (h : CM w b n seen) : b < w.heap.size := by
  obtain ⟨D, f, h, _⟩ := h
  exact h.lt
theorem CM.look {w : World} {b n seen} (h : CM w b n seen) {x : Dv} (hw : WfD x) :
    ∃ c : Nat, (Instr.lookup 123 (.map (some b)) (dvV x) false).run Tryz.prog w = .ok (.int .i64 c) w ∧ (c = 0 ↔ x ∉ seen) ∧ c ≤ n := by
  obtain ⟨D, f, hown, hD, hz, hle⟩ := h
  obtain ⟨kl, hkl⟩ := keyGo hw
  obtain ⟨c, hrun, hat, _⟩ := hown.lookup_int lawGo Tryz.underlying123 Tryz.underlying3 (zeroI _) hkl
  rw [hD x kl hkl] at hat
  obtain rfl : c = (f x : Int) := by simpa using hat.symm
  exact ⟨f x, hrun, hz x, hle x⟩
theorem CM.put {w : World} {b n seen} (h : CM w b n seen) (hn : n < 100000) {x : Dv} (hw : WfD x) {c : Nat} (hc : c ≤ n) :
    ∃ w', (Instr.mapUpdate 123 (.map (some b)) (dvV x) (.int .i64 ((c : Int) + 1))).run Tryz.prog w = .ok () w' ∧ CM w' b (n + 1) (x :: seen) ∧ w.grownBy w' (some b) := by
  obtain ⟨D, f, hown, hD, hz, hle⟩ := h
  obtain ⟨kl, hkl⟩ := keyGo hw
  have hwf : (Lit.int .i64 ((c : Int) + 1)).wf = true := by
    simp only [Lit.wf, IntKind.min, IntKind.max, IntKind.bits, IntKind.signed, Bool.and_eq_true, decide_eq_true_eq]
    simp
    omega
  obtain ⟨w', hrun, hown', hg⟩ := hown.update lawGo Tryz.underlying123 (by unfold maxLen; omega) hkl (plainElem_int Tryz.underlying3 hwf)
  refine ⟨w', hrun, ⟨_, fun y => if y = x then c + 1 else f y, hown', fun y kl' hkl' => ?_, fun y => ?_, fun y => ?_⟩, hg⟩
  · dsimp only
    by_cases he : y = x
    · subst he
      obtain rfl : kl = kl' := by rw [hkl] at hkl'; exact Option.some.inj hkl'
      rw [atKey_put_same hown.isMap (lawGo.key hkl), if_pos rfl]
      rfl
    · have hne : kl' ≠ kl := by
        intro hk
        subst hk
        exact he (dvV_inj (lawGo.inj hkl' hkl))
      rw [atKey_put_other hne, hD y kl' hkl', if_neg he]
  · dsimp only
    by_cases he : y = x
    · rw [if_pos he]; simp [he]
    · rw [if_neg he, hz y]; simp [he]
  · dsimp only
    by_cases he : y = x
    · rw [if_pos he]; omega
    · rw [if_neg he]; exact Nat.le_succ_of_le (hle y)
end Go.Proofs.YtijdigdcmjdooaaGreat

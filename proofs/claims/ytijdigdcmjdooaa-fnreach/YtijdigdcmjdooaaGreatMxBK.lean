/- A way's stretch: plain. Own work. -/
import Derived.Test.YtijdigdcmjdooaaGreatMxBI
import Derived.Test.YtijdigdcmjdooaaGreatMxAU
import Derived.Test.YtijdigdcmjdooaaGreatMxAW
import Derived.Test.YtijdigdcmjdooaaGreatMxAB
namespace Go.Proofs.YtijdigdcmjdooaaGreat
set_option maxHeartbeats 1000000

theorem prefix_last {l ss : List (Int × Int)} (hp : l <+: ss) {u : Int × Int} (hu : l.getLast? = some u) (h1 : 1 ≤ l.length) : ss[l.length - 1]! = u := by
  obtain ⟨r, rfl⟩ := hp
  rw [List.getLast?_eq_getElem?] at hu
  have h2 : (l ++ r)[l.length - 1]? = some u := by
    rw [List.getElem?_append_left (by omega)]
    exact hu
  rw [List.getElem!_eq_getElem?_getD, h2]
  rfl
/-- So much is left behind a way's pieces but the last. -/
theorem strTo_way {N : Nt} {hr : netOk N = (0, 0)} {q a wy : Int} (hs : spotP N q a wy = true) {y : Wy} (h : WayR (grN N hr) (q, wy) (roomP N q a wy) y) : ∀ (ss : List (Int × Int)) (F : Int), y.ss <+: ss → y.far ≤ F → (strTo N q a wy F ss (y.ss.length - 1)).1 = F - y.far := by
  have hb := room_bd hs
  induction h with
  | base =>
    intro ss F _ _
    show F = F - 0
    omega
  | @more y u e hy hu he ih =>
    intro ss F hp hF
    have hpos := hy.pos
    have hc := cost_nonneg hb.1 hy hu
    have hfe : (extW (grN N hr) (roomP N q a wy) y u e).far = y.far + costW (grN N hr) (roomP N q a wy) y u := rfl
    rw [hfe] at hF ⊢
    have hp' : y.ss <+: ss := List.IsPrefix.trans (List.prefix_append _ _) hp
    have h1 := ih ss F hp' (by omega)
    have hk : (extW (grN N hr) (roomP N q a wy) y u e).ss.length - 1 = (y.ss.length - 1) + 1 := by rw [extW_len]; omega
    rw [hk, strTo, h1]
    have hrm : roomP N (atStep N q a wy ss (y.ss.length - 1)).1 (atStep N q a wy ss (y.ss.length - 1)).2.1 (atStep N q a wy ss (y.ss.length - 1)).2.2 = costW (grN N hr) (roomP N q a wy) y u := by
      unfold atStep costW
      by_cases h0 : y.ss.length = 1
      · rw [if_pos (by omega), if_pos h0]
      · rw [if_neg (by omega), if_neg h0, prefix_last hp' hu hpos]
        obtain ⟨e0, he0, hl⟩ := hy.last_ok (by omega)
        rw [hu] at hl
        obtain rfl := Option.some.inj hl
        have hbk : headP (stepOf e0).1 (-(stepOf e0).2) = e0 := head_back' he0
        rw [hbk]
        show roomP N (enterP N e0).1 (enterP N e0).2.1 (enterP N e0).2.2 = lenAt N (stepOf e0).1
        unfold enterP roomP stepOf
        split <;> simp
    unfold goP
    rw [hrm]
    split <;> omega
/-- Nothing is left behind the whole of what Shortest answers. -/
theorem short_left {N : Nt} {hr : netOk N = (0, 0)} {q a wy q' a' wy' : Int} (hs : spotP N q a wy = true) (hs' : spotP N q' a' wy' = true) {y : Wy} (h : shortP N hr q a wy q' a' wy' = some y) : (strTo N q a wy y.far y.ss y.ss.length).1 = 0 ∧ y.ss[0]! = (q, wy) ∧ 1 ≤ y.ss.length ∧ 0 ≤ y.far ∧ y.far ≤ ((2 * N.pcs.length + 1 : Nat) : Int) * 10000000 ∧ y.ss.length ≤ 2 * N.pcs.length + 1 ∧ ∀ s ∈ y.ss, stepOk N.pcs.length s = true := by
  have hb := room_bd hs
  have hb' := room_bd hs'
  have hw := spot_way hs
  have hq : 0 ≤ q ∧ q < N.pcs.length ∧ 0 ≤ q' ∧ q' < N.pcs.length := by
    have h1 := hs
    have h2 := hs'
    simp only [spotP, inR, Bool.and_eq_true, decide_eq_true_eq] at h1 h2
    omega
  have hl := lenAt_pos hr q hq.1 hq.2.1
  have hl' := lenAt_pos hr q' hq.2.2.1 hq.2.2.2
  unfold shortP at h
  split at h
  · rename_i hc
    obtain rfl := Option.some.inj h
    obtain ⟨rfl, rfl⟩ := Prod.mk.inj hc.1
    have hd := room_diff (N := N) (q := q) (a := a) (a' := a') hw
    refine ⟨?_, rfl, by simp, hc.2, ?_, by simp, fun s hm => ?_⟩
    · show (strTo N q a wy ((a' - a) * wy) [(q, wy)] 1).1 = 0
      rw [strTo]
      show (a' - a) * wy - goP N ((a' - a) * wy) (atStep N q a wy [(q, wy)] 0) = 0
      unfold goP atStep
      rw [if_pos rfl]
      dsimp only
      split <;> omega
    · have : (1 : Int) ≤ ((2 * N.pcs.length + 1 : Nat) : Int) := by omega
      show (a' - a) * wy ≤ _
      omega
    · rw [List.mem_singleton.1 hm]
      exact spot_step hs
  · rename_i hc
    cases hbo : bestO (grN N hr) (q, wy) (roomP N q a wy) (q', wy') with
    | none => rw [hbo] at h; cases h
    | some b =>
      rw [hbo] at h
      obtain rfl := Option.some.inj h
      dsimp only
      have hto := bestO_way hbo
      have hsh := bestO_short hb.1 hbo
      have hfl := hto.way.far_le ⟨hb.1, by omega⟩
      have hst := strTo_way hs hto.way b.ss (b.far + (lenAt N q' - roomP N q' a' wy')) (List.prefix_refl _) (by omega)
      have h2 := hto.two
      refine ⟨?_, ?_, by omega, by omega, ?_, hsh, ?_⟩
      · have hk : b.ss.length = (b.ss.length - 1) + 1 := by omega
        rw [hk, strTo, hst]
        have hrm : roomP N (atStep N q a wy b.ss (b.ss.length - 1)).1 (atStep N q a wy b.ss (b.ss.length - 1)).2.1 (atStep N q a wy b.ss (b.ss.length - 1)).2.2 = lenAt N q' := by
          unfold atStep
          rw [if_neg (by omega), prefix_last (List.prefix_refl _) hto.last (by omega)]
          obtain ⟨e0, he0, hl0⟩ := hto.way.last_ok h2
          rw [hto.last] at hl0
          have hse := Option.some.inj hl0
          have hbk : headP q' (-wy') = e0 := by
            have := head_back' he0
            rw [← hse] at this
            exact this
          dsimp only
          rw [hbk]
          have hq1 : e0.1 = q' := by
            have := congrArg Prod.fst hse
            unfold stepOf at this
            exact this.symm
          rw [← hq1]
          unfold enterP roomP
          split <;> simp
        unfold goP
        rw [hrm]
        split <;> omega
      · have hh := hto.way.head
        rw [List.getElem!_eq_getElem?_getD, ← List.head?_eq_getElem?, hh]
        rfl
      · have h3 : (b.ss.length : Int) ≤ 2 * N.pcs.length + 1 := by
          have : (grN N hr).n = N.pcs.length := rfl
          rw [this] at hsh
          omega
        omega
      · intro s hm
        have hh := hto.way.head
        cases hcs : b.ss with
        | nil => rw [hcs] at hm; simp at hm
        | cons s0 r =>
          rw [hcs] at hm hh
          rcases List.mem_cons.1 hm with rfl | hm
          · have : s = (q, wy) := by simpa using hh
            rw [this]
            exact spot_step hs
          · obtain ⟨e, he, rfl⟩ := hto.way.steps_ok s (by rw [hcs]; exact hm)
            obtain ⟨⟨k1, k2⟩, k3⟩ := stepOf_ok he
            have : (grN N hr).n = N.pcs.length := rfl
            rw [this] at k2
            simp only [stepOk, inR, Bool.and_eq_true, decide_eq_true_eq, Bool.or_eq_true, beq_iff_eq]
            omega
theorem lenSum_snoc (l : List Prt) (p : Prt) : lenSum (l ++ [p]) = lenSum l + (p.2.2 - p.2.1) := by simp [lenSum]
/-- A stretch's parts are as long as what was gone. -/
theorem strTo_sum {N : Nt} {ss : List (Int × Int)} {q a wy far : Int} (hr : netOk N = (0, 0)) (hs : spotP N q a wy = true) (h : stepsP N ss = true) (hf : 0 ≤ far) : ∀ i, i ≤ ss.length → lenSum (strTo N q a wy far ss i).2 = far - (strTo N q a wy far ss i).1 ∧ (strTo N q a wy far ss i).2.all partOk = true
  | 0, _ => by simp [strTo, lenSum]
  | i + 1, hi => by
    obtain ⟨h1, h2⟩ := strTo_sum hr hs h hf i (by omega)
    have hsp := atStep_spot hr hs h (show i < ss.length by omega)
    have hbd := (strTo_bd hr hs h hf (show i ≤ ss.length by omega)).1
    have hg := goP_bd (left := (strTo N q a wy far ss i).1) hsp hbd
    have hwy := spot_way hsp
    have hgo := spot_go hsp hg.1 hg.2.2
    simp only [strTo]
    generalize hA : atStep N q a wy ss i = A at *
    obtain ⟨x, y, z⟩ := A
    dsimp only at *
    generalize goP N (strTo N q a wy far ss i).1 (x, y, z) = g at *
    have hp : 0 ≤ x ∧ x ≤ 99 ∧ 0 ≤ y ∧ y ≤ 10000000 ∧ 0 ≤ y + g * z ∧ y + g * z ≤ 10000000 := by
      have k1 := hsp
      have k2 := hgo
      simp only [spotP, inR, Bool.and_eq_true, decide_eq_true_eq] at k1 k2
      have k3 := lenAt_pos hr x (by omega) (by omega)
      have k4 : N.pcs.length ≤ 100 := by
        have a3 := (right_facts hr).1
        simp only [sizeBad, Bool.or_eq_false_iff, decide_eq_false_iff_not] at a3
        omega
      omega
    rw [lenSum_snoc, h1, List.all_append, h2]
    unfold partP
    rcases hwy with rfl | rfl
    · rw [Int.mul_one] at hp ⊢
      rw [if_neg (by omega)]
      refine ⟨?_, ?_⟩
      · dsimp only; omega
      · simp [partOk, inR]; omega
    · by_cases h0 : y > y + g * -1
      · rw [if_pos h0]
        refine ⟨?_, ?_⟩
        · dsimp only; omega
        · simp [partOk, inR]; omega
      · rw [if_neg h0]
        have : g = 0 := by omega
        subst this
        refine ⟨?_, ?_⟩
        · dsimp only; omega
        · simp [partOk, inR]; omega
end Go.Proofs.YtijdigdcmjdooaaGreat

/- Drawn tracks: the order of the ends, the joints: plain, and rows of ends. Own work. -/
namespace Go.Proofs.YtijdigdcmjdooaaGreat
open Go.RowKit
set_option maxHeartbeats 1000000

/-! ### Plain -/
def swapAt (es : List (Int × Int)) (i k : Nat) : List (Int × Int) := (es.set i es[k]!).set k es[i]!
theorem swapAt_len (es : List (Int × Int)) (i k : Nat) : (swapAt es i k).length = es.length := by simp [swapAt]
def shufI (code : List Int) (i : Nat) (c : Cu) : Int := (i : Int) - pickV code ((i : Int) + 1) c / (1 + pickV code 3 (pickC code ((i : Int) + 1) c))
def shufC (code : List Int) (i : Nat) (c : Cu) : Cu := pickC code 3 (pickC code ((i : Int) + 1) c)
theorem shufI_bd (code : List Int) (i : Nat) (c : Cu) : 0 ≤ shufI code i c ∧ shufI code i c ≤ i := by
  unfold shufI
  have h1 := pickV_bd (code := code) (n := (i : Int) + 1) (by omega) c
  have h2 := pickV_bd (code := code) (n := 3) (by omega) (pickC code ((i : Int) + 1) c)
  have h3 : 0 ≤ pickV code ((i : Int) + 1) c / (1 + pickV code 3 (pickC code ((i : Int) + 1) c)) := Int.ediv_nonneg h1.1 (by omega)
  have h4 : pickV code ((i : Int) + 1) c / (1 + pickV code 3 (pickC code ((i : Int) + 1) c)) ≤ pickV code ((i : Int) + 1) c := Int.ediv_le_self _ h1.1
  omega
theorem shufC_at (code : List Int) (i : Nat) (c : Cu) : (shufC code i c).at' ≤ c.at' + 4 := by
  unfold shufC
  have := pickC_at code ((i : Int) + 1) c
  have := pickC_at code 3 (pickC code ((i : Int) + 1) c)
  omega
def shuf (code : List Int) : Nat → List (Int × Int) → Cu → List (Int × Int) × Cu
  | 0, es, c => (es, c)
  | i + 1, es, c => shuf code i (swapAt es (i + 1) (shufI code (i + 1) c).toNat) (shufC code (i + 1) c)
theorem shuf_len (code : List Int) : ∀ (i : Nat) (es : List (Int × Int)) (c : Cu), (shuf code i es c).1.length = es.length
  | 0, es, c => rfl
  | i + 1, es, c => by
    rw [shuf, shuf_len code i, swapAt_len]

def kindT (x : Int) : Int := if x = 0 then 1 else if x < 3 then 2 else if x < 6 then 3 else 4
theorem kindT_bd (x : Int) : 1 ≤ kindT x ∧ kindT x ≤ 4 := by
  unfold kindT
  repeat' split
  all_goals omega
def jtKind (code : List Int) (es : List (Int × Int)) (c : Cu) : Int := if kindT (pickV code 7 c) > (es.length : Int) then 1 else kindT (pickV code 7 c)
def jtDraw (code : List Int) (n : Nat) (es : List (Int × Int)) (c : Cu) : Jt := ⟨jtKind code es c, if 3 ≤ jtKind code es c then nameP (100 + (n : Int)) else ⟨#[]⟩, es.take (jtKind code es c).toNat⟩
theorem jtKind_bd (code : List Int) (es : List (Int × Int)) (c : Cu) (h : 0 < es.length) : 1 ≤ jtKind code es c ∧ jtKind code es c ≤ 4 ∧ jtKind code es c ≤ es.length := by
  unfold jtKind kindT
  have := pickV_bd (code := code) (n := 7) (by omega) c
  repeat' split
  all_goals omega
def jrun (code : List Int) : Nat → List Jt → List (Int × Int) → Cu → List Jt
  | 0, js, _, _ => js
  | f + 1, js, es, c => if es.length = 0 then js else jrun code f (js ++ [jtDraw code js.length es c]) (es.drop (jtKind code es c).toNat) (pickC code 7 c)
theorem jrun_fuel (code : List Int) : ∀ (f g : Nat) (js : List Jt) (es : List (Int × Int)) (c : Cu), es.length ≤ f → es.length ≤ g → jrun code f js es c = jrun code g js es c
  | 0, 0, js, es, c, _, _ => rfl
  | 0, g + 1, js, es, c, hf, _ => by
    have : es.length = 0 := by omega
    simp [jrun, this]
  | f + 1, 0, js, es, c, _, hg => by
    have : es.length = 0 := by omega
    simp [jrun, this]
  | f + 1, g + 1, js, es, c, hf, hg => by
    rw [jrun, jrun]
    split
    · rfl
    · rename_i h0
      have := jtKind_bd code es c (by omega)
      exact jrun_fuel code f g _ _ _ (by simp; omega) (by simp; omega)

/-- The track that is drawn. -/
def netP (code : List Int) (c : Cu) : Nt :=
  let small := pickV code 4 c
  let c1 := pickC code 4 c
  let K := (1 + pickV code 9 c1).toNat
  let P := pcsTo code small (pickC code 9 c1) K
  let E := shuf code (2 * K - 1) (endsTo K) P.2
  ⟨P.1, jrun code (2 * K) [] E.1 E.2⟩

/-! ### Rows of ends -/
theorem endCells_len (es : List (Int × Int)) : (endCells es).length = es.length * 2 := by
  induction es with
  | nil => rfl
  | cons e es ih =>
    show (.int .i64 e.1 :: .int .i64 e.2 :: endCells es).length = _
    simp [ih]; omega
theorem endCells_at (ps : List (Int × Int)) : ∀ k (hk : k < ps.length), (endCells ps)[k * 2]? = some (.int .i64 ps[k].1) ∧ (endCells ps)[k * 2 + 1]? = some (.int .i64 ps[k].2) := by
  induction ps with
  | nil => intro k hk; simp at hk
  | cons p ps ih =>
    intro k hk
    have e : endCells (p :: ps) = .int .i64 p.1 :: .int .i64 p.2 :: endCells ps := rfl
    rw [e]
    cases k with
    | zero => exact ⟨rfl, rfl⟩
    | succ k =>
      have := ih k (by simpa using hk)
      have e3 : (k + 1) * 2 = k * 2 + 1 + 1 := by omega
      rw [e3]
      simpa using this
theorem endCells_set (ps : List (Int × Int)) : ∀ k (_ : k < ps.length) (x y : Int), ((endCells ps).set (k * 2) (.int .i64 x)).set (k * 2 + 1) (.int .i64 y) = endCells (ps.set k (x, y)) := by
  induction ps with
  | nil => intro k hk; simp at hk
  | cons p ps ih =>
    intro k hk x y
    have e : ∀ (p : Int × Int) (ps : List (Int × Int)), endCells (p :: ps) = .int .i64 p.1 :: .int .i64 p.2 :: endCells ps := fun _ _ => rfl
    cases k with
    | zero => rw [e]; simp [e]
    | succ k =>
      have := ih k (by simpa using hk) x y
      have e3 : (k + 1) * 2 = k * 2 + 1 + 1 := by omega
      rw [e3, e, List.set_cons_succ, List.set_cons_succ, List.set_cons_succ, List.set_cons_succ, this]
      rfl
theorem ends_get {w : World} {base g cap : Nat} {T : TypeId} {n : Nat} {es : List (Int × Int)} (h : w.ownsRow base T 2 (.slice (some ⟨g, 0, none⟩) n cap) n (endCells es)) (hl : es.length = n) {k : Nat} (hk : k < es.length) :
    w.cell? ⟨g, k * 2, none⟩ = some (.int .i64 es[k].1) ∧ w.cell? ⟨g, k * 2 + 1, none⟩ = some (.int .i64 es[k].2) ∧ w.frozen? ⟨g, k * 2, none⟩ = false ∧ w.frozen? ⟨g, k * 2 + 1, none⟩ = false := by
  obtain ⟨h1, h2⟩ := endCells_at es k hk
  exact ⟨by rw [h.cellAt _ (by omega), h1], by rw [h.cellAt _ (by omega), h2], h.frozenAt _, h.frozenAt _⟩
theorem ends_put {w : World} {base g cap : Nat} {T : TypeId} {n : Nat} {es : List (Int × Int)} (h : w.ownsRow base T 2 (.slice (some ⟨g, 0, none⟩) n cap) n (endCells es)) {k : Nat} (hk : k < es.length) (x y : Int) :
    ((w.setCell ⟨g, k * 2, none⟩ (.int .i64 x)).setCell ⟨g, k * 2 + 1, none⟩ (.int .i64 y)).ownsRow base T 2 (.slice (some ⟨g, 0, none⟩) n cap) n (endCells (es.set k (x, y))) := by
  rw [← endCells_set es k hk x y]
  exact ((h.stored _ _).1.stored _ _).1
theorem ends_at_of {w : World} {base g cap : Nat} {T : TypeId} {n : Nat} {es : List (Int × Int)} (h : w.ownsRow base T 2 (.slice (some ⟨g, 0, none⟩) n cap) n (endCells es)) (hl : es.length = n) : EndsAt w (some ⟨g, 0, none⟩) es := by
  intro k hk
  obtain ⟨h1, h2, _⟩ := ends_get h hl hk
  exact ⟨g, 0, rfl, by rw [Nat.zero_add]; exact h1, by rw [Nat.zero_add]; exact h2⟩
end Go.Proofs.YtijdigdcmjdooaaGreat

/- A drawn track is right: plain. Own work. -/
namespace Go.Proofs.YtijdigdcmjdooaaGreat
set_option maxHeartbeats 1000000

/-! ### Names -/
theorem nameP_nm : ∀ i : Fin 9, nm (nameP (i.val : Int)) = true := by decide +kernel
theorem nameP_nm1 : ∀ i : Fin 18, nm (nameP (100 + (i.val : Int))) = true := by decide +kernel
theorem nameP_ne : ∀ i k : Fin 9, i ≠ k → ((nameP (i.val : Int)).toList == (nameP (k.val : Int)).toList) = false := by decide +kernel
theorem nameP_ne1 : ∀ i k : Fin 18, i ≠ k → ((nameP (100 + (i.val : Int))).toList == (nameP (100 + (k.val : Int))).toList) = false := by decide +kernel
theorem nameP_some : ∀ k : Fin 18, ((⟨#[]⟩ : ByteArray).toList == (nameP (100 + (k.val : Int))).toList) = false := by decide +kernel
theorem name_empty : ((⟨#[]⟩ : ByteArray).toList).isEmpty = true := by decide +kernel

theorem inR_of {x a b : Int} (h1 : a ≤ x) (h2 : x ≤ b) : inR x a b = true := by simp [inR, h1, h2]

/-! ### Pieces -/
theorem pcs_get (code : List Int) (small : Int) (c0 : Cu) : ∀ (i k : Nat) (hk : k < (pcsTo code small c0 i).1.length), ∃ c, (pcsTo code small c0 i).1[k] = pcDraw code small k c
  | 0, k, hk => by simp [pcsTo] at hk
  | i + 1, k, hk => by
    have hl := pcsTo_len code small c0 i
    have hl1 := pcsTo_len code small c0 (i + 1)
    by_cases h : k < i
    · obtain ⟨c, hc⟩ := pcs_get code small c0 i k (by omega)
      refine ⟨c, ?_⟩
      rw [← hc]
      simp only [pcsTo]
      exact List.getElem_append_left (by omega)
    · have e : k = i := by omega
      refine ⟨(pcsTo code small c0 i).2, ?_⟩
      simp only [pcsTo]
      rw [List.getElem_append_right (by omega)]
      simp [e]

/-! ### Ends -/
theorem count_swap (es : List (Int × Int)) (i k : Nat) (hi : i < es.length) (hk : k < es.length) (b : Int × Int) : (swapAt es i k).count b = es.count b := by
  unfold swapAt
  have e1 : es[i]! = es[i] := by simp [hi]
  have e2 : es[k]! = es[k] := by simp [hk]
  rw [e1, e2, List.count_set (by simpa using hk), List.count_set hi]
  have e3 : (es.set i es[k])[k]'(by simpa using hk) = es[k] := by
    rw [List.getElem_set]
    split <;> rfl
  rw [e3]
  by_cases h1 : es[i] = b
  · have : 0 < es.count b := List.count_pos_iff.2 (h1 ▸ List.getElem_mem hi)
    by_cases h2 : es[k] = b
    · simp [h1, h2]; omega
    · simp [h1, h2]; omega
  · by_cases h2 : es[k] = b
    · simp [h1, h2]
    · simp [h1, h2]
theorem count_shuf (code : List Int) (b : Int × Int) : ∀ (i : Nat) (es : List (Int × Int)) (c : Cu), (i = 0 ∨ i < es.length) → (shuf code i es c).1.count b = es.count b
  | 0, es, c, _ => rfl
  | i + 1, es, c, h => by
    have hi : i + 1 < es.length := by omega
    have hb := shufI_bd code (i + 1) c
    rw [shuf, count_shuf code b i _ _ (by rw [swapAt_len]; omega), count_swap _ _ _ hi (by omega)]
theorem mem_endsTo {e : Int × Int} : ∀ {i : Nat}, e ∈ endsTo i → 0 ≤ e.1 ∧ e.1 < i ∧ (e.2 = 0 ∨ e.2 = 1)
  | 0, h => by simp [endsTo] at h
  | i + 1, h => by
    simp only [endsTo, List.mem_append, List.mem_cons, List.not_mem_nil, or_false] at h
    rcases h with h | rfl | rfl
    · have := mem_endsTo h; omega
    · simp; omega
    · simp; omega
theorem count_endsTo (s : Int) (hs : s = 0 ∨ s = 1) (k : Nat) : ∀ i : Nat, (endsTo i).count ((k : Int), s) = if k < i then 1 else 0
  | 0 => by simp [endsTo]
  | i + 1 => by
    rw [endsTo, List.count_append, count_endsTo s hs k i]
    by_cases h : k = i
    · subst h
      rcases hs with rfl | rfl <;> simp
    · rcases hs with rfl | rfl <;> simp [List.count_cons] <;> (repeat' split) <;> omega

/-! ### Joints -/
theorem jrun_get (code : List Int) (P : Int × Int → Prop) : ∀ (f : Nat) (js : List Jt) (es : List (Int × Int)) (c : Cu), (∀ e ∈ es, P e) → (∀ k (hk : k < js.length), ∃ es' c', 0 < es'.length ∧ (∀ e ∈ es', P e) ∧ js[k] = jtDraw code k es' c') →
    ∀ k (hk : k < (jrun code f js es c).length), ∃ es' c', 0 < es'.length ∧ (∀ e ∈ es', P e) ∧ (jrun code f js es c)[k] = jtDraw code k es' c'
  | 0, js, es, c, _, h => h
  | f + 1, js, es, c, he, h => by
    intro k hk
    by_cases h0 : es.length = 0
    · have e : jrun code (f + 1) js es c = js := by rw [jrun, if_pos h0]
      obtain ⟨es', c', h1, h2, h3⟩ := h k (by rw [e] at hk; exact hk)
      exact ⟨es', c', h1, h2, by rw [← h3]; simp only [e]⟩
    · have e : jrun code (f + 1) js es c = jrun code f (js ++ [jtDraw code js.length es c]) (es.drop (jtKind code es c).toNat) (pickC code 7 c) := by rw [jrun, if_neg h0]
      obtain ⟨es', c', h1, h2, h3⟩ := jrun_get code P f (js ++ [jtDraw code js.length es c]) (es.drop (jtKind code es c).toNat) (pickC code 7 c) (fun x hx => he x (List.mem_of_mem_drop hx)) (fun m hm => by
        by_cases hm' : m < js.length
        · obtain ⟨es', c', h1, h2, h3⟩ := h m hm'
          exact ⟨es', c', h1, h2, by rw [← h3]; exact List.getElem_append_left hm'⟩
        · have : m = js.length := by simp at hm; omega
          subst this
          exact ⟨es, c, by omega, he, by simp⟩) k (by rw [e] at hk; exact hk)
      exact ⟨es', c', h1, h2, by rw [← h3]; simp only [e]⟩
theorem jrun_ends (code : List Int) : ∀ (f : Nat) (js : List Jt) (es : List (Int × Int)) (c : Cu), es.length ≤ f → allEnds (jrun code f js es c) = allEnds js ++ es
  | 0, js, es, c, h => by
    have : es = [] := List.length_eq_zero_iff.1 (by omega)
    simp [jrun, this]
  | f + 1, js, es, c, h => by
    rw [jrun]
    split
    · rename_i h0
      simp [List.length_eq_zero_iff.1 h0]
    · rename_i h0
      have := jtKind_bd code es c (by omega)
      rw [jrun_ends code f _ _ _ (by simp; omega)]
      have e : allEnds (js ++ [jtDraw code js.length es c]) = allEnds js ++ es.take (jtKind code es c).toNat := by simp [allEnds, jtDraw]
      rw [e, List.append_assoc, List.take_append_drop]
theorem jrun_len (code : List Int) : ∀ (f : Nat) (js : List Jt) (es : List (Int × Int)) (c : Cu), (jrun code f js es c).length ≤ js.length + es.length
  | 0, js, es, c => by simp [jrun]
  | f + 1, js, es, c => by
    rw [jrun]
    split
    · omega
    · have := jtKind_bd code es c (by omega)
      have := jrun_len code f (js ++ [jtDraw code js.length es c]) (es.drop (jtKind code es c).toNat) (pickC code 7 c)
      simp at this
      omega

/-- A drawn track is right. -/
theorem netP_right (code : List Int) (c : Cu) : netOk (netP code c) = (0, 0) := by
  have hk := pickV_bd (code := code) (n := 9) (by omega) (pickC code 4 c)
  generalize hK : (1 + pickV code 9 (pickC code 4 c)).toNat = K
  have hK9 : 1 ≤ K ∧ K ≤ 9 := by omega
  have hpcs : (netP code c).pcs = (pcsTo code (pickV code 4 c) (pickC code 9 (pickC code 4 c)) K).1 := by unfold netP; simp only [hK]
  have hjts : (netP code c).jts = jrun code (2 * K) [] (shuf code (2 * K - 1) (endsTo K) (pcsTo code (pickV code 4 c) (pickC code 9 (pickC code 4 c)) K).2).1 (shuf code (2 * K - 1) (endsTo K) (pcsTo code (pickV code 4 c) (pickC code 9 (pickC code 4 c)) K).2).2 := by unfold netP; simp only [hK]
  have hpl := pcsTo_len code (pickV code 4 c) (pickC code 9 (pickC code 4 c)) K
  have hpg := pcs_get code (pickV code 4 c) (pickC code 9 (pickC code 4 c)) K
  have hcs := fun b => count_shuf code b (2 * K - 1) (endsTo K) (pcsTo code (pickV code 4 c) (pickC code 9 (pickC code 4 c)) K).2 (by rw [endsTo_len]; omega)
  have hsl := shuf_len code (2 * K - 1) (endsTo K) (pcsTo code (pickV code 4 c) (pickC code 9 (pickC code 4 c)) K).2
  rw [endsTo_len] at hsl
  generalize hS : shuf code (2 * K - 1) (endsTo K) (pcsTo code (pickV code 4 c) (pickC code 9 (pickC code 4 c)) K).2 = S at *
  have hmem : ∀ e ∈ S.1, 0 ≤ e.1 ∧ e.1 < K ∧ (e.2 = 0 ∨ e.2 = 1) := fun e he => by
    have h1 : 0 < S.1.count e := List.count_pos_iff.2 he
    rw [hcs e] at h1
    exact mem_endsTo (List.count_pos_iff.1 h1)
  have hjg := jrun_get code (fun e => 0 ≤ e.1 ∧ e.1 < K ∧ (e.2 = 0 ∨ e.2 = 1)) (2 * K) [] S.1 S.2 hmem (fun k hk => by simp at hk)
  have hje := jrun_ends code (2 * K) [] S.1 S.2 (by omega)
  have hjl := jrun_len code (2 * K) [] S.1 S.2
  rw [← hpcs] at hpl hpg
  rw [← hjts] at hjg hje hjl
  simp only [List.length_nil, Nat.zero_add] at hjl
  generalize netP code c = N at *
  clear hpcs hjts hS
  refine netOk_0 ?_ ?_ ?_ ?_ ?_
  · simp only [sizeBad, Bool.or_eq_false_iff, decide_eq_false_iff_not]; omega
  · intro j hj
    rw [pcBad_eq hj]
    obtain ⟨d, hd⟩ := hpg j hj
    have hn := nameP_nm ⟨j, by omega⟩
    have ho : N.pcs[j].ok = true := by
      rw [hd]
      have b2 := pickV_bd (code := code) (n := 200) (by omega) (pcC2 code (pickV code 4 c) d)
      have b3 := pickV_bd (code := code) (n := 90) (by omega) (pickC code 200 (pcC2 code (pickV code 4 c) d))
      have b1 : 1 ≤ pcLen code (pickV code 4 c) d ∧ pcLen code (pickV code 4 c) d ≤ 300 := by
        unfold pcLen
        have p1 := pickV_bd (code := code) (n := 4) (by omega) (wideC code d)
        have p2 := wideV_bd (code := code) (n := 300) (by omega) d
        split <;> omega
      show (nm (nameP (j : Int)) && inR (pcLen code (pickV code 4 c) d) 1 10000000 && inR (1 + pickV code 200 (pcC2 code (pickV code 4 c) d)) 1 10000 && inR (1 + pickV code 90 (pickC code 200 (pcC2 code (pickV code 4 c) d))) 1 1000) = true
      rw [hn, inR_of b1.1 (by omega), inR_of (by omega) (by omega), inR_of (by omega) (by omega)]
      rfl
    rw [ho, any_take_false (fun u hu hl => ?_)]
    · rfl
    · obtain ⟨d', hd'⟩ := hpg u hl
      rw [hd, hd']
      exact nameP_ne ⟨u, by omega⟩ ⟨j, by omega⟩ (by intro e; injection e; omega)
  · intro j hj
    rw [jtBad3_eq hj]
    obtain ⟨es, d, h1, h2, h3⟩ := hjg j hj
    have hb := jtKind_bd code es d h1
    rw [h3]
    have e1 : inR (jtDraw code j es d).kind 1 4 = true := inR_of hb.1 hb.2.1
    have e2 : ((jtDraw code j es d).ends.length : Int) = (jtDraw code j es d).kind := by
      simp only [jtDraw, List.length_take]; omega
    rw [e1, e2, any_false' (fun u hl => ?_)]
    · simp
    · have := h2 _ (List.mem_of_mem_take (List.getElem_mem hl))
      unfold endOk
      rw [inR_of (by omega) (by omega), inR_of (by omega) (by omega)]
      rfl
  · intro j hj
    rw [jtBad4_eq hj]
    obtain ⟨es, d, h1, h2, h3⟩ := hjg j hj
    rw [h3]
    split
    · rename_i hk3
      have : (jtDraw code j es d).name = ⟨#[]⟩ := by
        simp only [jtDraw] at hk3 ⊢
        rw [if_neg (by omega)]
      rw [this, name_empty]; rfl
    · rename_i hk3
      have hnm : (jtDraw code j es d).name = nameP (100 + (j : Int)) := by
        simp only [jtDraw] at hk3 ⊢
        rw [if_pos (by omega)]
      rw [hnm, nameP_nm1 ⟨j, by omega⟩, any_take_false (fun u hu hl => ?_)]
      · rfl
      · obtain ⟨es', d', _, _, h3'⟩ := hjg u hl
        rw [h3']
        simp only [jtDraw]
        split
        · exact nameP_ne1 ⟨u, by omega⟩ ⟨j, by omega⟩ (by intro e; injection e; omega)
        · exact nameP_some ⟨j, by omega⟩
  · intro j hj
    have hu : ∀ s, (s = 0 ∨ s = 1) → uses N.jts ((j : Int), s) = 1 := fun s hs => by
      unfold uses
      rw [hje]
      simp only [allEnds, List.flatMap_nil, List.nil_append]
      rw [hcs, count_endsTo s hs j K, if_pos (by omega)]
    exact pcBad5_false (hu 0 (.inl rfl)) (hu 1 (.inr rfl))
end Go.Proofs.YtijdigdcmjdooaaGreat

/- Drawn tracks: the joints as they lie while a track is made. Own work. -/
namespace Go.Proofs.YtijdigdcmjdooaaGreat
open Go.RowKit
set_option maxHeartbeats 1000000

/-- A joint, where its ends lie, and their room. -/
structure Jr where
  jt : Jt
  ad : Option Addr
  cap : Nat
def jtCells (js : List Jr) : List Value := js.flatMap fun t => [.int .i64 t.jt.kind, .string t.jt.name, .slice t.ad t.jt.ends.length t.cap]
theorem jtCells_add (js : List Jr) (t : Jr) : jtCells (js ++ [t]) = jtCells js ++ [.int .i64 t.jt.kind, .string t.jt.name, .slice t.ad t.jt.ends.length t.cap] := by simp [jtCells]
theorem jtCells_at (js : List Jr) : ∀ k (hk : k < js.length), (jtCells js)[k * 3]? = some (.int .i64 js[k].jt.kind) ∧ (jtCells js)[k * 3 + 1]? = some (.string js[k].jt.name) ∧ (jtCells js)[k * 3 + 2]? = some (.slice js[k].ad js[k].jt.ends.length js[k].cap) := by
  induction js with
  | nil => intro k hk; simp at hk
  | cons p ps ih =>
    intro k hk
    have e : jtCells (p :: ps) = .int .i64 p.jt.kind :: .string p.jt.name :: .slice p.ad p.jt.ends.length p.cap :: jtCells ps := rfl
    rw [e]
    cases k with
    | zero => exact ⟨rfl, rfl, rfl⟩
    | succ k =>
      have := ih k (by simpa using hk)
      have e3 : (k + 1) * 3 = k * 3 + 1 + 1 + 1 := by omega
      rw [e3]
      simpa using this
theorem pcCells_at (ps : List Pc) : ∀ k (hk : k < ps.length), (pcCells ps)[k * 4]? = some (.string ps[k].name) ∧ (pcCells ps)[k * 4 + 1]? = some (.int .i64 ps[k].len) ∧ (pcCells ps)[k * 4 + 2]? = some (.int .i64 ps[k].speed) ∧ (pcCells ps)[k * 4 + 3]? = some (.int .i64 ps[k].brake) := by
  induction ps with
  | nil => intro k hk; simp at hk
  | cons p ps ih =>
    intro k hk
    have e : pcCells (p :: ps) = .string p.name :: .int .i64 p.len :: .int .i64 p.speed :: .int .i64 p.brake :: pcCells ps := rfl
    rw [e]
    cases k with
    | zero => exact ⟨rfl, rfl, rfl, rfl⟩
    | succ k =>
      have := ih k (by simpa using hk)
      have e3 : (k + 1) * 4 = k * 4 + 1 + 1 + 1 + 1 := by omega
      rw [e3]
      simpa using this

/-- The ends of a joint lie in a block of their own kind. -/
def EndsIn (w : World) (base : Nat) (t : Jr) : Prop := ∃ eb cs fr, t.ad = some ⟨eb, 0, none⟩ ∧ base ≤ eb ∧ w.heap[eb]? = some (.cells cs 92 fr) ∧ EndsAt w t.ad t.jt.ends
theorem EndsIn.of_block {w w' : World} {base : Nat} {t : Jr} (h : EndsIn w base t) (hb : ∀ eb, base ≤ eb → eb < w.heap.size → (∃ cs fr, w.heap[eb]? = some (.cells cs 92 fr)) → w'.heap[eb]? = w.heap[eb]?) : EndsIn w' base t := by
  obtain ⟨eb, cs, fr, h1, h2, h3, h4⟩ := h
  have hl := (Array.getElem?_eq_some_iff.1 h3).1
  have e := hb eb h2 hl ⟨cs, fr, h3⟩
  refine ⟨eb, cs, fr, h1, h2, by rw [e]; exact h3, fun k hk => ?_⟩
  obtain ⟨b, off, ha, c0, c1⟩ := h4 k hk
  have : b = eb := by rw [h1] at ha; simp at ha; exact ha.1.symm
  subst this
  exact ⟨b, off, ha, by rw [World.cell?_of_block (w := w) (w' := w') (a := ⟨b, off + k * 2, none⟩) e]; exact c0, by rw [World.cell?_of_block (w := w) (w' := w') (a := ⟨b, off + k * 2 + 1, none⟩) e]; exact c1⟩
/-- The joints that were made. -/
structure JR (w : World) (base : Nat) (jv : Value) (js : List Jr) : Prop where
  own : w.ownsRow base 97 3 jv js.length (jtCells js)
  ends : ∀ t ∈ js, EndsIn w base t
theorem JR.nil (w : World) (base : Nat) : JR w base (.slice none 0 0) [] := ⟨World.ownsRow_nil _ _ _ _, fun t h => by simp at h⟩
theorem JR.later {w w' : World} {base : Nat} {jv : Value} {js : List Jr} (h : JR w base jv js) (hb : Below w.heap.size w w') : JR w' base jv js :=
  ⟨owns_later' h.own hb, fun t ht => (h.ends t ht).of_block fun eb _ hl _ => hb.block eb hl⟩
theorem JR.mid {w w' : World} {base B C : Nat} {jv : Value} {js : List Jr} (h : JR w base jv js) (hm : Mid B C w w') (hC : C ≤ base) : JR w' base jv js :=
  ⟨owns_mid h.own hm hC, fun t ht => (h.ends t ht).of_block fun eb hb hl _ => hm.block eb hl (.inr (by omega))⟩
/-- Only what was made later has turned. -/
theorem owns_midUp {B C : Nat} {w w' : World} {base : Nat} {e : TypeId} {size : Nat} {v : Value} {n : Nat} {xs : List Value} (h : w.ownsRow base e size v n xs) (hm : Mid B C w w') (hB : ∀ g, v.ownBlock = some g → g < B) : w'.ownsRow base e size v n xs := by
  refine ⟨h.1, ?_⟩
  rcases h.2 with h | ⟨g, cap, cur, rfl, hbg, hg, rest⟩
  · exact .inl h
  · exact .inr ⟨g, cap, cur, rfl, hbg, by rw [hm.block g (Array.getElem?_eq_some_iff.1 hg).1 (.inl (hB g rfl))]; exact hg, rest⟩
/-- All that the joints take lies below H. -/
def JR.Low (H : Nat) (jv : Value) (js : List Jr) : Prop := (∀ g, jv.ownBlock = some g → g < H) ∧ ∀ t ∈ js, ∀ eb, t.ad = some ⟨eb, 0, none⟩ → eb < H
theorem JR.low {w : World} {base : Nat} {jv : Value} {js : List Jr} (h : JR w base jv js) : JR.Low w.heap.size jv js := by
  refine ⟨fun g hg => (h.own.lt g hg).2, fun t ht eb he => ?_⟩
  obtain ⟨eb', cs, fr, h1, _, h3, _⟩ := h.ends t ht
  rw [h1] at he
  obtain rfl : eb' = eb := by simpa using he
  exact (Array.getElem?_eq_some_iff.1 h3).1
theorem JR.midUp {w w' : World} {base B C : Nat} {jv : Value} {js : List Jr} (h : JR w base jv js) (hm : Mid B C w w') (hl : JR.Low B jv js) : JR w' base jv js := by
  refine ⟨owns_midUp h.own hm hl.1, fun t ht => ?_⟩
  obtain ⟨eb, cs, fr, h1, h2, h3, h4⟩ := h.ends t ht
  have hlt := hl.2 t ht eb h1
  have e := hm.block eb (Array.getElem?_eq_some_iff.1 h3).1 (.inl hlt)
  refine ⟨eb, cs, fr, h1, h2, by rw [e]; exact h3, fun k hk => ?_⟩
  obtain ⟨b, off, ha, c0, c1⟩ := h4 k hk
  have : b = eb := by rw [h1] at ha; simp at ha; exact ha.1.symm
  subst this
  exact ⟨b, off, ha, hm.cell (.inl hlt) c0, hm.cell (.inl hlt) c1⟩
theorem JR.other {w : World} {base : Nat} {jv : Value} {js : List Jr} (h : JR w base jv js) {g : Nat} (hg : ∃ cs fr, w.heap[g]? = some (.cells cs 92 fr)) : some g ≠ jv.ownBlock := by
  obtain ⟨cs, fr, he⟩ := hg
  intro e
  rcases h.own.2 with ⟨rfl, _⟩ | ⟨g', cap, cur, rfl, _, hgg, _⟩
  · simp [Value.ownBlock] at e
  · have : g = g' := by simpa [Value.ownBlock] using e
    subst this
    rw [he] at hgg
    injection hgg with hgg
    injection hgg with _ h2 _
    exact absurd h2 (by decide)
theorem ends_block {w w' : World} {g o : Nat} {es : List (Int × Int)} (h : EndsAt w (some ⟨g, o, none⟩) es) (he : w'.heap[g]? = w.heap[g]?) : EndsAt w' (some ⟨g, o, none⟩) es := by
  intro k hk
  obtain ⟨b, off, ha, c0, c1⟩ := h k hk
  obtain ⟨rfl, rfl⟩ : g = b ∧ o = off := by simpa using ha
  exact ⟨g, o, rfl, by rw [World.cell?_of_block (w := w) (w' := w') (a := ⟨g, o + k * 2, none⟩) he]; exact c0, by rw [World.cell?_of_block (w := w) (w' := w') (a := ⟨g, o + k * 2 + 1, none⟩) he]; exact c1⟩
theorem ends_drop {w : World} {g o : Nat} {es : List (Int × Int)} (h : EndsAt w (some ⟨g, o, none⟩) es) (m : Nat) : EndsAt w (some ⟨g, o + m * 2, none⟩) (es.drop m) := by
  intro k hk
  have hk' : m + k < es.length := by simp at hk; omega
  obtain ⟨b, off, ha, c0, c1⟩ := h (m + k) hk'
  obtain ⟨rfl, rfl⟩ : g = b ∧ o = off := by simpa using ha
  have e : (es.drop m)[k] = es[m + k] := by simp
  rw [e]
  exact ⟨g, o + m * 2, rfl, by rw [show o + m * 2 + k * 2 = o + (m + k) * 2 by omega]; exact c0, by rw [show o + m * 2 + k * 2 + 1 = o + (m + k) * 2 + 1 by omega]; exact c1⟩
theorem JR.setUp {w : World} {base B o : Nat} {jv : Value} {js : List Jr} (h : JR w base jv js) (hl : JR.Low B jv js) (v : Value) : JR (w.setCell ⟨B, o, none⟩ v) base jv js := by
  refine ⟨ownsRow_setCell_other h.own (fun e => by have := hl.1 B e; omega) v, fun t ht => ?_⟩
  obtain ⟨eb, cs, fr, h1, h2, h3, h4⟩ := h.ends t ht
  have hlt := hl.2 t ht eb h1
  have e : (w.setCell ⟨B, o, none⟩ v).heap[eb]? = w.heap[eb]? := Below.heap_setCell _ _ _ _ (by show eb ≠ B; omega)
  refine ⟨eb, cs, fr, h1, h2, by rw [e]; exact h3, ?_⟩
  rw [h1] at h4 ⊢
  exact ends_block h4 e
/-- One joint more. -/
theorem JR.add {w w' : World} {base : Nat} {jv jv' : Value} {js : List Jr} {t : Jr} (h : JR w base jv js) (hg : w.grownBy w' jv.ownBlock) (hown : w'.ownsRow base 97 3 jv' (js.length + 1) (jtCells js ++ [.int .i64 t.jt.kind, .string t.jt.name, .slice t.ad t.jt.ends.length t.cap])) (ht : EndsIn w base t) : JR w' base jv' (js ++ [t]) := by
  have hne : ∀ eb, (∃ cs fr, w.heap[eb]? = some (.cells cs 92 fr)) → some eb ≠ jv.ownBlock := by
    rintro eb ⟨cs, fr, he⟩ e
    rcases h.own.2 with ⟨rfl, _⟩ | ⟨g, cap, cur, rfl, _, hgg, _⟩
    · simp [Value.ownBlock] at e
    · have : eb = g := by simpa [Value.ownBlock] using e
      subst this
      rw [he] at hgg
      injection hgg with hgg
      injection hgg with _ h2 _
      exact absurd h2 (by decide)
  refine ⟨by rw [jtCells_add, List.length_append]; exact hown, fun u hu => ?_⟩
  rcases List.mem_append.1 hu with hu | hu
  · exact (h.ends u hu).of_block fun eb _ hl hk => hg.block eb hl (hne eb hk)
  · have : u = t := by simpa using hu
    subst this
    exact ht.of_block fun eb _ hl hk => hg.block eb hl (hne eb hk)
theorem JR.setBelow {w : World} {base : Nat} {jv : Value} {js : List Jr} (h : JR w base jv js) {B o : Nat} (hB : B < base) (v : Value) : JR (w.setCell ⟨B, o, none⟩ v) base jv js :=
  ⟨ownsRow_setCell_below h.own (by show B < base; exact hB) v, fun t ht => (h.ends t ht).of_block fun eb hb _ _ => Below.heap_setCell _ _ _ _ (by show eb ≠ B; omega)⟩

/-- What is owned as rows is a track in memory. -/
theorem pcs_at_of {w : World} {base : Nat} {pv : Value} {ps : List Pc} (h : w.ownsRow base 65 4 pv ps.length (pcCells ps)) : ∃ pa pcap, pv = .slice pa ps.length pcap ∧ PcsAt w pa ps := by
  rcases h.2 with ⟨rfl, h0⟩ | ⟨g, cap, cur, rfl, _⟩
  · refine ⟨none, 0, by rw [h0], fun k hk => by omega⟩
  · refine ⟨some ⟨g, 0, none⟩, cap, rfl, fun k hk => ?_⟩
    obtain ⟨h0, h1, h2, h3⟩ := pcCells_at ps k hk
    exact ⟨g, 0, rfl, by rw [Nat.zero_add, h.cellAt _ (by omega), h0], by rw [Nat.zero_add, h.cellAt _ (by omega), h1], by rw [Nat.zero_add, h.cellAt _ (by omega), h2], by rw [Nat.zero_add, h.cellAt _ (by omega), h3]⟩
theorem jts_at_of {w : World} {base : Nat} {jv : Value} {js : List Jr} (h : JR w base jv js) : ∃ ja jcap, jv = .slice ja (js.map (·.jt)).length jcap ∧ JtsAt w ja (js.map (·.jt)) := by
  have hl : (js.map (·.jt)).length = js.length := by simp
  rcases h.own.2 with ⟨rfl, h0⟩ | ⟨g, cap, cur, rfl, _⟩
  · refine ⟨none, 0, by rw [hl, h0], fun k hk => by omega⟩
  · refine ⟨some ⟨g, 0, none⟩, cap, by rw [hl], fun k hk => ?_⟩
    have hk' : k < js.length := by omega
    obtain ⟨h0, h1, h2⟩ := jtCells_at js k hk'
    obtain ⟨eb, cs, fr, e1, _, _, e4⟩ := h.ends js[k] (List.getElem_mem hk')
    have own := h.own
    simp only [List.getElem_map]
    exact ⟨g, 0, js[k].ad, js[k].cap, rfl, by rw [Nat.zero_add, own.cellAt _ (by omega), h0], by rw [Nat.zero_add, own.cellAt _ (by omega), h1], by rw [Nat.zero_add, own.cellAt _ (by omega), h2], e4⟩

/-- A track that lies in what was made since w. -/
def NetIn (w w' : World) (pa ja : Option Addr) (N : Nt) : Prop :=
  ∀ w2 : World, (∀ k, w.heap.size ≤ k → k < w'.heap.size → w2.heap[k]? = w'.heap[k]?) → PcsAt w2 pa N.pcs ∧ JtsAt w2 ja N.jts
theorem owns_blocks {w w2 : World} {base : Nat} {e : TypeId} {size : Nat} {v : Value} {n : Nat} {xs : List Value} (h : w.ownsRow base e size v n xs) (hk : ∀ k, base ≤ k → k < w.heap.size → w2.heap[k]? = w.heap[k]?) : w2.ownsRow base e size v n xs := by
  refine ⟨h.1, ?_⟩
  rcases h.2 with h | ⟨g, cap, cur, rfl, hbg, hg, rest⟩
  · exact .inl h
  · exact .inr ⟨g, cap, cur, rfl, hbg, by rw [hk g hbg (Array.getElem?_eq_some_iff.1 hg).1]; exact hg, rest⟩
theorem JR.blocks {w w2 : World} {base : Nat} {jv : Value} {js : List Jr} (h : JR w base jv js) (hk : ∀ k, base ≤ k → k < w.heap.size → w2.heap[k]? = w.heap[k]?) : JR w2 base jv js :=
  ⟨owns_blocks h.own hk, fun t ht => (h.ends t ht).of_block fun eb hb hl _ => hk eb hb hl⟩
theorem netIn_of {w w' : World} {base : Nat} {pa ja : Option Addr} {pcap jcap : Nat} {ps : List Pc} {js : List Jr} (hw : w.heap.size ≤ base) (hp : w'.ownsRow base 65 4 (.slice pa ps.length pcap) ps.length (pcCells ps)) (hj : JR w' base (.slice ja js.length jcap) js) : NetIn w w' pa ja ⟨ps, js.map (·.jt)⟩ := by
  intro w2 hk
  have hk' : ∀ k, base ≤ k → k < w'.heap.size → w2.heap[k]? = w'.heap[k]? := fun k h1 h2 => hk k (by omega) h2
  obtain ⟨pa', pcap', e1, hPA⟩ := pcs_at_of (owns_blocks hp hk')
  obtain ⟨ja', jcap', e2, hJA⟩ := jts_at_of (hj.blocks hk')
  obtain ⟨rfl, rfl⟩ : pa = pa' ∧ pcap = pcap' := by simpa using e1
  obtain ⟨rfl, rfl⟩ : ja = ja' ∧ jcap = jcap' := by simpa using e2
  exact ⟨hPA, hJA⟩
/-- The track that was drawn is told. -/
def NetPost (code : List Int) (c : Cu) (b : Nat) (w : World) (e : Ending) (w' : World) : Prop :=
  ∃ (pa ja : Option Addr) (pcap jcap : Nat), e = .returned (.agg #[.slice pa (netP code c).pcs.length pcap, .slice ja (netP code c).jts.length jcap]) ∧ NetIn w w' pa ja (netP code c) ∧ Mid b (b + 1) w w'
/-- Between two joints. -/
structure L3 (w wx : World) (b : Nat) (a : Option Addr) (code : List Int) (cap : Nat) (pv : Value) (ps : List Pc) (k g : Nat) (RJ : List Jt) (d od cq : Nat) (js : List Jr) (jv : Value) (es : List (Int × Int)) (cw : Cu) : Prop where
  sum : d + es.length = 2 * k
  room : es.length ≤ cq
  few : js.length ≤ d
  at' : cw.at' ≤ 2000 + 2 * d
  ea : EndsAt wx (some ⟨g, od, none⟩) es
  gb : w.heap.size + 2 ≤ g
  gl : g < wx.heap.size
  nw : NW w wx b a code cap cw pv jv
  pr : wx.ownsRow (w.heap.size + 2) 65 4 pv k (pcCells ps)
  ty : ∃ cs fr, wx.heap[g]? = some (.cells cs 92 fr)
  jr : JR wx (w.heap.size + 2) jv js
  run : jrun code es.length (js.map (·.jt)) es cw = RJ
def L3E (w wx : World) (b : Nat) (a : Option Addr) (code : List Int) (cap : Nat) (pv : Value) (ps : List Pc) (k g : Nat) (RJ : List Jt) (s4 : Value) : Prop :=
  ∃ (d od cq : Nat) (js : List Jr) (jv : Value) (es : List (Int × Int)) (cw : Cu), s4 = .slice (some ⟨g, od, none⟩) es.length cq ∧ L3 w wx b a code cap pv ps k g RJ d od cq js jv es cw

/-- Between two ends of a joint. -/
def L4E (bj kn : Nat) (kd : Int) (W5 wx : World) (es : List (Int × Int)) (i : Value) : Prop :=
  ∃ (x : Nat) (v : Value), x ≤ kn ∧ i = .int .i64 x ∧ Mid bj (bj + 1) W5 wx ∧ (wx.cell? ⟨bj, 0, none⟩ = some (.int .i64 kd) ∧ wx.cell? ⟨bj, 1, none⟩ = some (.string ⟨#[]⟩) ∧ wx.cell? ⟨bj, 2, none⟩ = some v) ∧ (∀ o, wx.frozen? ⟨bj, o, none⟩ = false) ∧ wx.ownsRow (bj + 1) 92 2 v x (endCells (es.take x))

section
variable {w wr : World} {b : Nat} {a : Option Addr} {code : List Int} {cap : Nat} {c : Cu} {pv jv : Value}
theorem NW.midUp {w2 : World} {B C : Nat} (h : NW w wr b a code cap c pv jv) (hm : Mid B C wr w2) (hB : w.heap.size + 2 ≤ B) : NW w w2 b a code cap c pv jv := by
  have hb := h.bw
  have hcur := h.cur
  exact { cur := ⟨hm.cell (.inl (by omega)) hcur.c0, hm.cell (.inl (by omega)) hcur.c1, hm.cell (.inl (by omega)) hcur.c2, hm.frozen (.inl (by omega)) hcur.c1 hcur.f1, hm.frozen (.inl (by omega)) hcur.c2 hcur.f2⟩
          bys := fun k hk => by
            obtain ⟨xb, xo, ha, hx⟩ := h.bys k hk
            have := h.off xb xo ha
            exact ⟨xb, xo, ha, hm.cell (.inl (by omega)) hx⟩
          r0 := hm.cell (.inl (by omega)) h.r0
          r1 := hm.cell (.inl (by omega)) h.r1
          rf0 := hm.frozen (.inl (by omega)) h.r0 h.rf0
          rf1 := hm.frozen (.inl (by omega)) h.r1 h.rf1
          n0 := hm.cell (.inl (by omega)) h.n0
          n1 := hm.cell (.inl (by omega)) h.n1
          nf0 := hm.frozen (.inl (by omega)) h.n0 h.nf0
          nf1 := hm.frozen (.inl (by omega)) h.n1 h.nf1
          mid := ⟨hm.os.trans h.mid.os, hm.tape.trans h.mid.tape, hm.output.trans h.mid.output, Nat.le_trans h.mid.size hm.size, fun k hk hc => (hm.block k (Nat.lt_of_lt_of_le hk h.mid.size) (.inl (by omega))).trans (h.mid.block k hk hc)⟩
          bw := h.bw
          off := h.off }
end
end Go.Proofs.YtijdigdcmjdooaaGreat

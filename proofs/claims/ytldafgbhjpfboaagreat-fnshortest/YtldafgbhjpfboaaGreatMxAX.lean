/- A way's stretch: plain. Own work. -/
import Derived.Test.YtldafgbhjpfboaaGreatMxAW
import Derived.Test.YtldafgbhjpfboaaGreatMxAO
import Derived.Test.YtldafgbhjpfboaaGreatMxAR
import Derived.Test.YtldafgbhjpfboaaGreatMxAQ
import Derived.Deep.QuietTactic
import Derived.BigQuiet
import Derived.Laws.BitsLemmas
import Derived.Deep.RegionWith
namespace Go.Proofs.YtldafgbhjpfboaaGreat
set_option maxHeartbeats 1000000

theorem prefix_last {l ss : List (Int × Int)} (hp : l <+: ss) {u : Int × Int} (hu : l.getLast? = some u) (h1 : 1 ≤ l.length) : ss[l.length - 1]! = u := by
  obtain ⟨r, rfl⟩ := hp
  rw [List.getLast?_eq_getElem?] at hu
  have h2 : (l ++ r)[l.length - 1]? = some u := by
    rw [List.getElem?_append_left (by omega)]
    exact hu
  rw [List.getElem!_eq_getElem?_getD, h2]
  rfl
/-- So much is left behind a way's pieces but the last. -/
theorem strTo_way {N : Nt} {hr : netOk N = (0, 0)} {q a wy : Int} (hs : spotP N q a wy = true) {y : Wy} (h : WayR (grN N hr) (q, wy) (roomP N q a wy) y) : ∀ (ss : List (Int × Int)) (F : Int), y.ss <+: ss → y.far ≤ F → (strTo N q a wy F ss (y.ss.length - 1)).1 = F - y.far := by
  have hb := room_bd hs
  induction h with
  | base =>
    intro ss F _ _
    show F = F - 0
    omega
  | @more y u e hy hu he ih =>
    intro ss F hp hF
    have hpos := hy.pos
    have hc := cost_nonneg hb.1 hy hu
    have hfe : (extW (grN N hr) (roomP N q a wy) y u e).far = y.far + costW (grN N hr) (roomP N q a wy) y u := rfl
    rw [hfe] at hF ⊢
    have hp' : y.ss <+: ss := List.IsPrefix.trans (List.prefix_append _ _) hp
    have h1 := ih ss F hp' (by omega)
    have hk : (extW (grN N hr) (roomP N q a wy) y u e).ss.length - 1 = (y.ss.length - 1) + 1 := by rw [extW_len]; omega
    rw [hk, strTo, h1]
    have hrm : roomP N (atStep N q a wy ss (y.ss.length - 1)).1 (atStep N q a wy ss (y.ss.length - 1)).2.1 (atStep N q a wy ss (y.ss.length - 1)).2.2 = costW (grN N hr) (roomP N q a wy) y u := by
      unfold atStep costW
      by_cases h0 : y.ss.length = 1
      · rw [if_pos (by omega), if_pos h0]
      · rw [if_neg (by omega), if_neg h0, prefix_last hp' hu hpos]
        obtain ⟨e0, he0, hl⟩ := hy.last_ok (by omega)
        rw [hu] at hl
        obtain rfl := Option.some.inj hl
        have hbk : headP (stepOf e0).1 (-(stepOf e0).2) = e0 := head_back' he0
        rw [hbk]
        show roomP N (enterP N e0).1 (enterP N e0).2.1 (enterP N e0).2.2 = lenAt N (stepOf e0).1
        unfold enterP roomP stepOf
        split <;> simp
    unfold goP
    rw [hrm]
    split <;> omega
/-- Nothing is left behind the whole of what Shortest answers. -/
theorem short_left {N : Nt} {hr : netOk N = (0, 0)} {q a wy q' a' wy' : Int} (hs : spotP N q a wy = true) (hs' : spotP N q' a' wy' = true) {y : Wy} (h : shortP N hr q a wy q' a' wy' = some y) : (strTo N q a wy y.far y.ss y.ss.length).1 = 0 ∧ y.ss[0]! = (q, wy) ∧ 1 ≤ y.ss.length ∧ 0 ≤ y.far ∧ y.far ≤ ((2 * N.pcs.length + 1 : Nat) : Int) * 10000000 ∧ y.ss.length ≤ 2 * N.pcs.length + 1 ∧ ∀ s ∈ y.ss, stepOk N.pcs.length s = true := by
  have hb := room_bd hs
  have hb' := room_bd hs'
  have hw := spot_way hs
  have hq : 0 ≤ q ∧ q < N.pcs.length ∧ 0 ≤ q' ∧ q' < N.pcs.length := by
    have h1 := hs
    have h2 := hs'
    simp only [spotP, inR, Bool.and_eq_true, decide_eq_true_eq] at h1 h2
    omega
  have hl := lenAt_pos hr q hq.1 hq.2.1
  have hl' := lenAt_pos hr q' hq.2.2.1 hq.2.2.2
  unfold shortP at h
  split at h
  · rename_i hc
    obtain rfl := Option.some.inj h
    obtain ⟨rfl, rfl⟩ := Prod.mk.inj hc.1
    have hd := room_diff (N := N) (q := q) (a := a) (a' := a') hw
    refine ⟨?_, rfl, by simp, hc.2, ?_, by simp, fun s hm => ?_⟩
    · show (strTo N q a wy ((a' - a) * wy) [(q, wy)] 1).1 = 0
      rw [strTo]
      show (a' - a) * wy - goP N ((a' - a) * wy) (atStep N q a wy [(q, wy)] 0) = 0
      unfold goP atStep
      rw [if_pos rfl]
      dsimp only
      split <;> omega
    · have : (1 : Int) ≤ ((2 * N.pcs.length + 1 : Nat) : Int) := by omega
      show (a' - a) * wy ≤ _
      omega
    · rw [List.mem_singleton.1 hm]
      exact spot_step hs
  · rename_i hc
    cases hbo : bestO (grN N hr) (q, wy) (roomP N q a wy) (q', wy') with
    | none => rw [hbo] at h; cases h
    | some b =>
      rw [hbo] at h
      obtain rfl := Option.some.inj h
      dsimp only
      have hto := bestO_way hbo
      have hsh := bestO_short hb.1 hbo
      have hfl := hto.way.far_le ⟨hb.1, by omega⟩
      have hst := strTo_way hs hto.way b.ss (b.far + (lenAt N q' - roomP N q' a' wy')) (List.prefix_refl _) (by omega)
      have h2 := hto.two
      refine ⟨?_, ?_, by omega, by omega, ?_, hsh, ?_⟩
      · have hk : b.ss.length = (b.ss.length - 1) + 1 := by omega
        rw [hk, strTo, hst]
        have hrm : roomP N (atStep N q a wy b.ss (b.ss.length - 1)).1 (atStep N q a wy b.ss (b.ss.length - 1)).2.1 (atStep N q a wy b.ss (b.ss.length - 1)).2.2 = lenAt N q' := by
          unfold atStep
          rw [if_neg (by omega), prefix_last (List.prefix_refl _) hto.last (by omega)]
          obtain ⟨e0, he0, hl0⟩ := hto.way.last_ok h2
          rw [hto.last] at hl0
          have hse := Option.some.inj hl0
          have hbk : headP q' (-wy') = e0 := by
            have := head_back' he0
            rw [← hse] at this
            exact this
          dsimp only
          rw [hbk]
          have hq1 : e0.1 = q' := by
            have := congrArg Prod.fst hse
            unfold stepOf at this
            exact this.symm
          rw [← hq1]
          unfold enterP roomP
          split <;> simp
        unfold goP
        rw [hrm]
        split <;> omega
      · have hh := hto.way.head
        rw [List.getElem!_eq_getElem?_getD, ← List.head?_eq_getElem?, hh]
        rfl
      · have h3 : (b.ss.length : Int) ≤ 2 * N.pcs.length + 1 := by
          have : (grN N hr).n = N.pcs.length := rfl
          rw [this] at hsh
          omega
        omega
      · intro s hm
        have hh := hto.way.head
        cases hcs : b.ss with
        | nil => rw [hcs] at hm; simp at hm
        | cons s0 r =>
          rw [hcs] at hm hh
          rcases List.mem_cons.1 hm with rfl | hm
          · have : s = (q, wy) := by simpa using hh
            rw [this]
            exact spot_step hs
          · obtain ⟨e, he, rfl⟩ := hto.way.steps_ok s (by rw [hcs]; exact hm)
            obtain ⟨⟨k1, k2⟩, k3⟩ := stepOf_ok he
            have : (grN N hr).n = N.pcs.length := rfl
            rw [this] at k2
            simp only [stepOk, inR, Bool.and_eq_true, decide_eq_true_eq, Bool.or_eq_true, beq_iff_eq]
            omega
theorem lenSum_snoc (l : List Prt) (p : Prt) : lenSum (l ++ [p]) = lenSum l + (p.2.2 - p.2.1) := by simp [lenSum]
/-- A stretch's parts are as long as what was gone. -/
theorem strTo_sum {N : Nt} {ss : List (Int × Int)} {q a wy far : Int} (hr : netOk N = (0, 0)) (hs : spotP N q a wy = true) (h : stepsP N ss = true) (hf : 0 ≤ far) : ∀ i, i ≤ ss.length → lenSum (strTo N q a wy far ss i).2 = far - (strTo N q a wy far ss i).1 ∧ (strTo N q a wy far ss i).2.all partOk = true
  | 0, _ => by simp [strTo, lenSum]
  | i + 1, hi => by
    obtain ⟨h1, h2⟩ := strTo_sum hr hs h hf i (by omega)
    have hsp := atStep_spot hr hs h (show i < ss.length by omega)
    have hbd := (strTo_bd hr hs h hf (show i ≤ ss.length by omega)).1
    have hg := goP_bd (left := (strTo N q a wy far ss i).1) hsp hbd
    have hwy := spot_way hsp
    have hgo := spot_go hsp hg.1 hg.2.2
    simp only [strTo]
    generalize hA : atStep N q a wy ss i = A at *
    obtain ⟨x, y, z⟩ := A
    dsimp only at *
    generalize goP N (strTo N q a wy far ss i).1 (x, y, z) = g at *
    have hp : 0 ≤ x ∧ x ≤ 99 ∧ 0 ≤ y ∧ y ≤ 10000000 ∧ 0 ≤ y + g * z ∧ y + g * z ≤ 10000000 := by
      have k1 := hsp
      have k2 := hgo
      simp only [spotP, inR, Bool.and_eq_true, decide_eq_true_eq] at k1 k2
      have k3 := lenAt_pos hr x (by omega) (by omega)
      have k4 : N.pcs.length ≤ 100 := by
        have a3 := (right_facts hr).1
        simp only [sizeBad, Bool.or_eq_false_iff, decide_eq_false_iff_not] at a3
        omega
      omega
    rw [lenSum_snoc, h1, List.all_append, h2]
    unfold partP
    rcases hwy with rfl | rfl
    · rw [Int.mul_one] at hp ⊢
      rw [if_neg (by omega)]
      refine ⟨?_, ?_⟩
      · dsimp only; omega
      · simp [partOk, inR]; omega
    · by_cases h0 : y > y + g * -1
      · rw [if_pos h0]
        refine ⟨?_, ?_⟩
        · dsimp only; omega
        · simp [partOk, inR]; omega
      · rw [if_neg h0]
        have : g = 0 := by omega
        subst this
        refine ⟨?_, ?_⟩
        · dsimp only; omega
        · simp [partOk, inR]; omega
end Go.Proofs.YtldafgbhjpfboaaGreat

namespace Go.Proofs.YtldafgbhjpfboaaGreat
open Go.RowKit
set_option maxHeartbeats 1000000

def dtext (n : Int) : ByteArray := if n = 0 then ⟨#[48]⟩ else md (n.toNat + 1) n ⟨#[]⟩

theorem md_size (f : Nat) : ∀ (n : Int) (s : ByteArray), (md f n s).size ≤ f + s.size := by
  induction f with
  | zero => intro n s; simp [md]
  | succ f ih =>
    intro n s
    rw [md]
    split
    · omega
    · have := ih (n / 10) (ByteArray.empty.push (UInt8.ofNat (48 + n % 10).toNat) ++ s)
      rw [size_dig] at this
      omega

theorem md_size10 (f : Nat) : ∀ (g : Nat) (n : Int) (s : ByteArray), n < 10 ^ g → (md f n s).size ≤ g + s.size := by
  induction f with
  | zero => intro g n s _; simp [md]
  | succ f ih =>
    intro g n s hg
    rw [md]
    split
    · omega
    · rename_i hn
      match g, hg with
      | 0, hg => simp at hg; omega
      | g + 1, hg =>
        have h2 : n / 10 < 10 ^ g := by
          rw [Int.pow_succ] at hg
          omega
        have := ih g (n / 10) (ByteArray.empty.push (UInt8.ofNat (48 + n % 10).toNat) ++ s) h2
        rw [size_dig] at this
        omega

theorem dtext_size (n : Int) (h : n ≤ 10000000) : (dtext n).size ≤ 8 := by
  unfold dtext
  split
  · decide
  · have := md_size10 (n.toNat + 1) 8 n ⟨#[]⟩ (by omega)
    have e : (ByteArray.mk #[]).size = 0 := rfl
    omega

set_option maxRecDepth 20000 in
theorem l2decimal_any (k : Int) (w : World) (h0 : 0 ≤ k) (h1 : k ≤ 10000000) :
    Calls Tryz.prog 56 #[.int .i64 k] w fun e w' =>
    e = .returned (.string (dtext k)) ∧ Below w.heap.size w w' := by
  by_cases hk : k = 0
  · subst hk
    go_enter Tryz.func56, Tryz.ntmps56
    go_wp2
    go_ret
    exact ⟨rfl, Below.refl _ _⟩
  · have hk' : (k == 0) = false := by rw [beq_eq_false_iff_ne]; exact hk
    have HM := hide (show dtext k = md (k.toNat + 1) k ⟨#[]⟩ by simp [dtext, hk])
    generalize hR : md (k.toNat + 1) k ⟨#[]⟩ = R at HM
    have HR := hide hR
    clear hR hk
    go_enter Tryz.func56, Tryz.ntmps56
    go_wp2
    go_loopw [0, 3] (fun i q wr => ∃ (n : Int) (s : ByteArray), 0 ≤ n ∧ i = .int .i64 n ∧ q = .string s ∧ n + s.size ≤ k ∧ Hid (md (n.toNat + 1) n s = R) ∧ Below w.heap.size w wr) (fun i _ _ => (intOf i).toNat)
    case atStart => exact ⟨k, ⟨#[]⟩, by omega, rfl, rfl, by simp [ByteArray.size], HR, Below.refl _ _⟩
    case round =>
      obtain ⟨n, s, hn, rfl, rfl, hs, hmd, hb⟩ := hrel
      by_cases hpos : 0 < n
      · have hcv := conv1 wr (48 + n % 10)
        go_wp2
        refine ⟨⟨n / 10, _, by omega, rfl, rfl, ?_, ?_, hb.alloc hb.size _⟩, ?_⟩
        · rw [size_dig]; omega
        · have h := hmd.out
          rw [md, if_neg (by omega)] at h
          show md _ _ _ = _
          rw [← h]
          exact md_fuel _ _ _ _ (by omega) (by omega)
        · simp [intOf]; omega
      · have h := hmd.out
        rw [md, if_pos (by omega)] at h
        have HH := hide h
        clear h
        go_wp2
        go_ret
        refine ⟨?_, hb⟩
        rw [HM.out, ← HH.out]
        rfl
end Go.Proofs.YtldafgbhjpfboaaGreat

/- What the laws draw their tracks by: plain. Own work. -/
namespace Go.Proofs.YtldafgbhjpfboaaGreat

/-- The reader of choices: how many were read, and the sequence behind the end. -/
structure Cu where
  at' : Nat
  seed : Int

def mulS (s : Int) : Int := IntKind.u64.wrap (s * 6364136223846793005)
def addS (s b : Int) : Int := IntKind.u64.wrap (IntKind.u64.wrap (mulS s + b) + 1442695040888963407)
def stepS (s : Int) : Int := IntKind.u64.wrap (mulS s + 1442695040888963407)
def lowS (s : Int) : Int := (s / 1099511627776) % 256

def nextV (code : List Int) (c : Cu) : Int := if c.at' < code.length then code[c.at']! else lowS (stepS c.seed)
def nextC (code : List Int) (c : Cu) : Cu := ⟨c.at' + 1, if c.at' < code.length then addS c.seed code[c.at']! else stepS c.seed⟩

def pickV (code : List Int) (n : Int) (c : Cu) : Int :=
  if n ≤ 1 then 0 else if n > 200 then (nextV code c * 256 + nextV code (nextC code c)) % n else nextV code c % n
def pickC (code : List Int) (n : Int) (c : Cu) : Cu :=
  if n ≤ 1 then c else if n > 200 then nextC code (nextC code c) else nextC code c
def wideV (code : List Int) (n : Int) (c : Cu) : Int := (nextV code c * 256 + nextV code (nextC code c)) % n
def wideC (code : List Int) (c : Cu) : Cu := nextC code (nextC code c)

/-- Bytes. -/
def Bys (code : List Int) : Prop := ∀ x ∈ code, 0 ≤ x ∧ x < 256
theorem lowS_bd (s : Int) : 0 ≤ lowS s ∧ lowS s < 256 := by unfold lowS; omega
theorem nextV_bd {code : List Int} (h : Bys code) (c : Cu) : 0 ≤ nextV code c ∧ nextV code c < 256 := by
  unfold nextV
  split
  · rename_i hl
    have : code[c.at']! = code[c.at'] := by simp [hl]
    rw [this]
    exact h _ (List.getElem_mem hl)
  · exact lowS_bd _
theorem pickV_bd {code : List Int} {n : Int} (hn : 0 < n) (c : Cu) : 0 ≤ pickV code n c ∧ pickV code n c < n := by
  unfold pickV
  split
  · omega
  · split
    · exact ⟨Int.emod_nonneg _ (by omega), Int.emod_lt_of_pos _ hn⟩
    · exact ⟨Int.emod_nonneg _ (by omega), Int.emod_lt_of_pos _ hn⟩
theorem wideV_bd {code : List Int} {n : Int} (hn : 0 < n) (c : Cu) : 0 ≤ wideV code n c ∧ wideV code n c < n :=
  ⟨Int.emod_nonneg _ (by omega), Int.emod_lt_of_pos _ hn⟩
theorem pickC_at (code : List Int) (n : Int) (c : Cu) : (pickC code n c).at' ≤ c.at' + 2 := by
  unfold pickC
  split
  · omega
  · split
    · show c.at' + 1 + 1 ≤ c.at' + 2; omega
    · show c.at' + 1 ≤ c.at' + 2; omega
theorem wideC_at (code : List Int) (c : Cu) : (wideC code c).at' = c.at' + 2 := rfl
end Go.Proofs.YtldafgbhjpfboaaGreat

/- The reader of choices: next, pick, wide. Own work. -/
namespace Go.Proofs.YtldafgbhjpfboaaGreat
open Go.RowKit
set_option maxHeartbeats 1000000

/-- Bytes in memory. -/
def BytesAt (w : World) (a : Option Addr) (xs : List Int) : Prop :=
  ∀ k (_ : k < xs.length), ∃ b off, a = some ⟨b, off, none⟩ ∧ w.cell? ⟨b, off + k, none⟩ = some (.int .u8 xs[k])
theorem BytesAt.later {w w' : World} {a xs} (h : BytesAt w a xs) (hb : Below w.heap.size w w') : BytesAt w' a xs := by
  intro k hk
  obtain ⟨b, off, ha, h1⟩ := h k hk
  exact ⟨b, off, ha, cell_later' hb h1⟩
/-- The bytes lie elsewhere than in block B. -/
def OffB (a : Option Addr) (n B : Nat) : Prop := ∀ b off, a = some ⟨b, off, none⟩ → n = 0 ∨ b < B
theorem BytesAt.mid {w w' : World} {a xs} {B C : Nat} (h : BytesAt w a xs) (hm : Mid B C w w') (ho : OffB a xs.length B) : BytesAt w' a xs := by
  intro k hk
  obtain ⟨b, off, ha, h1⟩ := h k hk
  exact ⟨b, off, ha, hm.cell (.inl (by have := ho b off ha; omega)) h1⟩

/-- The reader in block b. -/
structure CurAt (w : World) (b : Nat) (a : Option Addr) (n cap : Nat) (c : Cu) : Prop where
  c0 : w.cell? ⟨b, 0, none⟩ = some (.slice a n cap)
  c1 : w.cell? ⟨b, 1, none⟩ = some (.int .i64 c.at')
  c2 : w.cell? ⟨b, 2, none⟩ = some (.int .u64 c.seed)
  f1 : w.frozen? ⟨b, 1, none⟩ = false
  f2 : w.frozen? ⟨b, 2, none⟩ = false
theorem CurAt.later {w w' : World} {b : Nat} {a : Option Addr} {n cap : Nat} {c : Cu} (h : CurAt w b a n cap c) (hb : Below w.heap.size w w') : CurAt w' b a n cap c where
  c0 := cell_later' hb h.c0
  c1 := cell_later' hb h.c1
  c2 := cell_later' hb h.c2
  f1 := by rw [hb.frozen (p := ⟨b, 1, none⟩) (cell_lt h.c0)]; exact h.f1
  f2 := by rw [hb.frozen (p := ⟨b, 2, none⟩) (cell_lt h.c0)]; exact h.f2

theorem u64_bd (x : Int) : 0 ≤ IntKind.u64.wrap x ∧ IntKind.u64.wrap x < 18446744073709551616 := by
  simp only [IntKind.wrap, IntKind.bits, IntKind.signed]
  simp
  omega
theorem u64_small (n : Int) (h0 : 0 ≤ n) (h1 : n < 2 ^ 24) : IntKind.u64.wrap n = n := by
  simp only [IntKind.wrap, IntKind.bits, IntKind.signed]
  simp
  omega
theorem low_eq (x : Int) (h0 : 0 ≤ x) (h1 : x < 18446744073709551616) : wrap64 (bits BinOp.and IntKind.u64 (x / 1099511627776) 255) = lowS x := by
  have h := bits_mask .u64 24 (by decide) u64_small 8 (by decide) (x / 1099511627776) (by omega) (by omega)
  have e : ((2 : Int) ^ 8 - 1) = 255 := by decide
  rw [e] at h
  rw [h]
  unfold lowS wrap64
  omega
/-- The reader has read one more. -/
theorem cur_put {w : World} {b : Nat} {a : Option Addr} {n cap : Nat} {c : Cu} (h : CurAt w b a n cap c) (c' : Cu) (W : World) (hW : W = (w.setCell ⟨b, 1, none⟩ (.int .i64 c'.at')).setCell ⟨b, 2, none⟩ (.int .u64 c'.seed) ∨ W = (w.setCell ⟨b, 2, none⟩ (.int .u64 c'.seed)).setCell ⟨b, 1, none⟩ (.int .i64 c'.at')) : CurAt W b a n cap c' ∧ Mid b (b + 1) w W := by
  obtain ⟨c0, c1, c2, f1, f2⟩ := h
  rcases hW with rfl | rfl
  · exact ⟨⟨by simp [go_sem, c0], by simp [go_sem, c1], by simp [go_sem, c2], by simp [go_sem, f1], by simp [go_sem, f2]⟩, ((Mid.refl _ _ _).setCell (Nat.le_refl _) (by omega) _).setCell (Nat.le_refl _) (by omega) _⟩
  · exact ⟨⟨by simp [go_sem, c0], by simp [go_sem, c1], by simp [go_sem, c2], by simp [go_sem, f1], by simp [go_sem, f2]⟩, ((Mid.refl _ _ _).setCell (Nat.le_refl _) (by omega) _).setCell (Nat.le_refl _) (by omega) _⟩
theorem CurAt.drewN {w : World} {b : Nat} {a : Option Addr} {n cap : Nat} {c : Cu} (h : CurAt w b a n cap c) (q : Nat) : CurAt (w.drewN q) b a n cap c := h.later (below_drewN (Below.refl _ _) q)
theorem mid_drewN {B C : Nat} (w : World) (q : Nat) : Mid B C w (w.drewN q) := Mid.of_below (below_drewN (Below.refl _ _) q)

theorem next_any (b : Nat) (a : Option Addr) (cap : Nat) (code : List Int) (c : Cu) (w : World) (hB : Bys code) (hat : c.at' ≤ 4611686018427387904) (_hn : code.length ≤ 1048576) (hc : CurAt w b a code.length cap c) (hx : BytesAt w a code) :
    Calls Tryz.prog 42 #[.pointer (some ⟨b, 0, none⟩)] w fun e w' =>
    e = .returned (.int .i64 (nextV code c)) ∧ CurAt w' b a code.length cap (nextC code c) ∧ Mid b (b + 1) w w' := by
  have HCA := hide hc
  obtain ⟨c0, c1, c2, f1, f2⟩ := hc
  by_cases hl : c.at' < code.length
  · obtain ⟨xb, xo, rfl, x0⟩ := hx _ hl
    have hi : (c.at' : Int) < (code.length : Int) := by omega
    have hg : code[c.at']! = code[c.at'] := by simp [hl]
    have hbd := hB _ (List.getElem_mem hl)
    have HV := hide (show nextV code c = code[c.at'] by unfold nextV; rw [if_pos hl, hg])
    have HC := hide (show nextC code c = ⟨c.at' + 1, addS c.seed code[c.at']⟩ by unfold nextC; rw [if_pos hl, hg])
    generalize code[c.at'] = v at *
    clear hx hg
    go_enter Tryz.func42, Tryz.ntmps42
    go_wp2_with fail
    go_quiet (fail)
    go_wp2_with fail
    go_quiet (fail)
    go_wp2_with fail
    go_ret
    rw [HV.out, HC.out]
    obtain ⟨h1, h2⟩ := cur_put (HCA.out.drewN _) ⟨c.at' + 1, addS c.seed v⟩ _ (.inl rfl)
    exact ⟨rfl, h1, (mid_drewN w _).trans h2⟩
  · have HV := hide (show nextV code c = lowS (stepS c.seed) by unfold nextV; rw [if_neg hl])
    have HC := hide (show nextC code c = ⟨c.at' + 1, stepS c.seed⟩ by unfold nextC; rw [if_neg hl])
    have hi : decide ((c.at' : Int) < (code.length : Int)) = false := by rw [decide_eq_false_iff_not]; omega
    clear hx
    go_enter Tryz.func42, Tryz.ntmps42
    go_wp2_with fail
    go_quiet (fail)
    go_wp2_with fail
    go_ret
    rw [HV.out, HC.out]
    obtain ⟨h1, h2⟩ := cur_put (HCA.out.drewN _) ⟨c.at' + 1, stepS c.seed⟩ _ (.inr rfl)
    exact ⟨ret_i (low_eq _ (u64_bd _).1 (u64_bd _).2), h1, (mid_drewN w _).trans h2⟩

/-- What is read of the bytes stays where the reader turns. -/
theorem pick_any (b : Nat) (a : Option Addr) (cap : Nat) (code : List Int) (c : Cu) (n : Int) (w : World) (hB : Bys code) (hat : c.at' ≤ 4611686018427387000) (hn : code.length ≤ 1048576) (ho : OffB a code.length b) (h0 : 0 ≤ n) (h1 : n ≤ 1048576) (hc : CurAt w b a code.length cap c) (hx : BytesAt w a code) :
    Calls Tryz.prog 18 #[.pointer (some ⟨b, 0, none⟩), .int .i64 n] w fun e w' =>
    e = .returned (.int .i64 (pickV code n c)) ∧ CurAt w' b a code.length cap (pickC code n c) ∧ Mid b (b + 1) w w' := by
  have HCA := hide hc
  have HX := hide hx
  have HB := hide hB
  clear hc hx hB
  by_cases hn1 : n ≤ 1
  · have HV := hide (show pickV code n c = 0 by unfold pickV; rw [if_pos hn1])
    have HC := hide (show pickC code n c = c by unfold pickC; rw [if_pos hn1])
    go_enter Tryz.func18, Tryz.ntmps18
    go_wp2_with fail
    go_ret
    rw [HV.out, HC.out]
    exact ⟨rfl, HCA.out, Mid.refl _ _ _⟩
  · have hn1' : decide (n ≤ 1) = false := by rw [decide_eq_false_iff_not]; exact hn1
    by_cases hn2 : n > 200
    · have HV := hide (show pickV code n c = (nextV code c * 256 + nextV code (nextC code c)) % n by unfold pickV; rw [if_neg hn1, if_pos hn2])
      have HC := hide (show pickC code n c = nextC code (nextC code c) by unfold pickC; rw [if_neg hn1, if_pos hn2])
      have b1 := nextV_bd HB.out c
      have b2 := nextV_bd HB.out (nextC code c)
      have hn2' : decide (200 < n) = true := by rw [decide_eq_true_iff]; omega
      have hn0 : ¬ n = 0 := by omega
      go_enter Tryz.func18, Tryz.ntmps18
      go_wp2_with fail
      refine (next_any b a cap code c _ HB.out (by omega) hn HCA.out HX.out).mono ?_
      rintro e w1 ⟨rfl, hc1, hm1⟩
      have HC1 := hide hc1
      have HX1 := hide (HX.out.mid hm1 ho)
      have HM1 := hide hm1
      clear hc1 hm1
      generalize nextV code c = x at *
      go_wp2_with fail
      refine (next_any b a cap code _ _ HB.out (by show c.at' + 1 ≤ _; omega) hn HC1.out HX1.out).mono ?_
      rintro e w2 ⟨rfl, hc2, hm2⟩
      have HC2 := hide hc2
      have HM2 := hide (HM1.out.trans hm2)
      clear hc2 hm2
      generalize nextV code (nextC code c) = y at *
      go_wp2_with fail
      go_ret
      rw [HV.out, HC.out]
      exact ⟨rfl, HC2.out, HM2.out⟩
    · have HV := hide (show pickV code n c = nextV code c % n by unfold pickV; rw [if_neg hn1, if_neg hn2])
      have HC := hide (show pickC code n c = nextC code c by unfold pickC; rw [if_neg hn1, if_neg hn2])
      have b1 := nextV_bd HB.out c
      have hn2' : decide (200 < n) = false := by rw [decide_eq_false_iff_not]; omega
      have hn0 : ¬ n = 0 := by omega
      go_enter Tryz.func18, Tryz.ntmps18
      go_wp2_with fail
      refine (next_any b a cap code c _ HB.out (by omega) hn HCA.out HX.out).mono ?_
      rintro e w1 ⟨rfl, hc1, hm1⟩
      have HC1 := hide hc1
      have HM1 := hide hm1
      clear hc1 hm1
      generalize nextV code c = x at *
      go_wp2_with fail
      go_ret
      rw [HV.out, HC.out]
      exact ⟨rfl, HC1.out, HM1.out⟩

theorem wide_any (b : Nat) (a : Option Addr) (cap : Nat) (code : List Int) (c : Cu) (n : Int) (w : World) (hB : Bys code) (hat : c.at' ≤ 4611686018427387000) (hn : code.length ≤ 1048576) (ho : OffB a code.length b) (h0 : 1 ≤ n) (h1 : n ≤ 10000001) (hc : CurAt w b a code.length cap c) (hx : BytesAt w a code) :
    Calls Tryz.prog 19 #[.pointer (some ⟨b, 0, none⟩), .int .i64 n] w fun e w' =>
    e = .returned (.int .i64 (wideV code n c)) ∧ CurAt w' b a code.length cap (wideC code c) ∧ Mid b (b + 1) w w' := by
  have HCA := hide hc
  have HX := hide hx
  have HB := hide hB
  clear hc hx hB
  have b1 := nextV_bd HB.out c
  have b2 := nextV_bd HB.out (nextC code c)
  have HV := hide (show wideV code n c = (nextV code c * 256 + nextV code (nextC code c)) % n from rfl)
  have HC := hide (show wideC code c = nextC code (nextC code c) from rfl)
  have hn0 : ¬ n = 0 := by omega
  go_enter Tryz.func19, Tryz.ntmps19
  go_wp2_with fail
  refine (next_any b a cap code c _ HB.out (by omega) hn HCA.out HX.out).mono ?_
  rintro e w1 ⟨rfl, hc1, hm1⟩
  have HC1 := hide hc1
  have HX1 := hide (HX.out.mid hm1 ho)
  have HM1 := hide hm1
  clear hc1 hm1
  generalize nextV code c = x at *
  go_wp2_with fail
  refine (next_any b a cap code _ _ HB.out (by show c.at' + 1 ≤ _; omega) hn HC1.out HX1.out).mono ?_
  rintro e w2 ⟨rfl, hc2, hm2⟩
  have HC2 := hide hc2
  have HM2 := hide (HM1.out.trans hm2)
  clear hc2 hm2
  generalize nextV code (nextC code c) = y at *
  go_wp2_with fail
  go_ret
  rw [HV.out, HC.out]
  exact ⟨rfl, HC2.out, HM2.out⟩
end Go.Proofs.YtldafgbhjpfboaaGreat

/- The names that are drawn. Own work. -/
namespace Go.Proofs.YtldafgbhjpfboaaGreat
open Go.RowKit
set_option maxHeartbeats 1000000

def nameP (i : Int) : ByteArray := ByteArray.empty.push (UInt8.ofNat (97 + i % 26).toNat) ++ dtext i
theorem nameP_size {i : Int} (h : i ≤ 10000000) : (nameP i).size ≤ 9 := by
  unfold nameP
  rw [size_dig]
  have := dtext_size i h
  omega

theorem conv_at {W : World} {g : Nat} {x : Int} (h : W.cell? ⟨g, 0, none⟩ = some (.int .u8 x)) : (convert 22 9 (.slice (some ⟨g, 0, none⟩) 1 1)).run Tryz.prog W = .ok (.string (ByteArray.empty.push (UInt8.ofNat x.toNat))) W := by
  rw [run_convert_bytes_string _ _ _ _ _ _ _ Tryz.underlying22 Tryz.underlying5 Tryz.underlying9]
  rw [run_bytesToString _ _ _ _ [x] (by simp [loadCells, go_sem, h])]
  rfl
theorem box_d {w w1 : World} {cs : Array Value} {T : TypeId} (hb : Below (w.alloc (.cells cs T)).drew.heap.size (w.alloc (.cells cs T)).drew w1) (i : Nat) (v : Value) (h : cs[i]? = some v) : w1.cell? ⟨w.heap.size, i, none⟩ = some v :=
  cell_keep hb (by simp) (new_cell w cs T i v h)

set_option maxRecDepth 20000 in
theorem name_any (b : Option Addr) (i : Int) (w : World) (h0 : 0 ≤ i) (h1 : i ≤ 10000000) :
    Calls Tryz.prog 41 #[.pointer b, .int .i64 i] w fun e w' =>
    e = .returned (.string (nameP i)) ∧ Below w.heap.size w w' := by
  have hsz := dtext_size i h1
  have htm : i.tmod 26 = i % 26 := Int.tmod_eq_emod_of_nonneg h0
  obtain ⟨x, hx⟩ : ∃ x, 97 + i % 26 = x := ⟨_, rfl⟩
  have hxb : 97 ≤ x ∧ x ≤ 122 := by omega
  have hw64 : IntKind.i64.wrap x = x := by rw [IntKind.wrap_i64]; omega
  have hw8 : IntKind.u8.wrap x = x := by rw [IntKind.wrap_u8]; omega
  have hcv : (convert 22 9 (.slice (some ⟨w.heap.size, 0, none⟩) 1 1)).run Tryz.prog (w.alloc (.cells #[.int .u8 x] 5)).drew = .ok (.string (ByteArray.empty.push (UInt8.ofNat x.toNat))) (w.alloc (.cells #[.int .u8 x] 5)).drew :=
    conv_at (new_cell w #[.int .u8 x] 5 0 _ rfl)
  have HN := hide (show nameP i = ByteArray.empty.push (UInt8.ofNat x.toNat) ++ dtext i by rw [← hx]; rfl)
  generalize hd : dtext i = D at *
  have HD := hide hd
  clear hd
  have hlim : (9223372036854775807 < (ByteArray.empty.push (UInt8.ofNat x.toNat)).size + D.size) = False := by rw [eq_iff_iff, iff_false, ByteArray.size_push]; simp; omega
  have hlim2 : (9223372036854775807 < 1 + D.size) = False := by rw [eq_iff_iff, iff_false]; omega
  go_enter Tryz.func41, Tryz.ntmps41
  go_wp2_with fail
  go_region_with (go_at_call 56; refine (l2decimal_any i _ h0 h1).mono ?_; rintro e w1 ⟨rfl, hb1⟩; rw [HD.out]; have hcv1 := conv1 w1 x; try (have hcv2 := conv_at (box_d hb1 0 _ rfl)))
  all_goals
    go_wp2_with fail
    go_ret
    refine ⟨by rw [HN.out]; rfl, ?_⟩
    first
      | exact ((((Below.refl w.heap.size w).alloc (Nat.le_refl _) _).drew).trans (hb1.mono (by simp)))
      | exact (((Below.refl w.heap.size w).drew).trans hb1).alloc hb1.size _
end Go.Proofs.YtldafgbhjpfboaaGreat

/- What the laws draw their tracks by: plain. Own work. -/
import Derived.Test.YtcodpnkfpmjleaaGreatDoorMxAB
import Derived.Test.YtcodpnkfpmjleaaGreatDoorTo
import Derived.Deep.QuietTactic
import Derived.BigQuiet
import Derived.Laws.BitsLemmas
namespace Go.Proofs.YtcodpnkfpmjleaaGreatDoor

/-- The reader of choices: how many were read, and the sequence behind the end. -/
structure Cu where
  at' : Nat
  seed : Int

def mulS (s : Int) : Int := IntKind.u64.wrap (s * 6364136223846793005)
def addS (s b : Int) : Int := IntKind.u64.wrap (IntKind.u64.wrap (mulS s + b) + 1442695040888963407)
def stepS (s : Int) : Int := IntKind.u64.wrap (mulS s + 1442695040888963407)
def lowS (s : Int) : Int := (s / 1099511627776) % 256

def nextV (code : List Int) (c : Cu) : Int := if c.at' < code.length then code[c.at']! else lowS (stepS c.seed)
def nextC (code : List Int) (c : Cu) : Cu := ⟨c.at' + 1, if c.at' < code.length then addS c.seed code[c.at']! else stepS c.seed⟩

def pickV (code : List Int) (n : Int) (c : Cu) : Int :=
  if n ≤ 1 then 0 else if n > 200 then (nextV code c * 256 + nextV code (nextC code c)) % n else nextV code c % n
def pickC (code : List Int) (n : Int) (c : Cu) : Cu :=
  if n ≤ 1 then c else if n > 200 then nextC code (nextC code c) else nextC code c
def wideV (code : List Int) (n : Int) (c : Cu) : Int := (nextV code c * 256 + nextV code (nextC code c)) % n
def wideC (code : List Int) (c : Cu) : Cu := nextC code (nextC code c)

/-- Bytes. -/
def Bys (code : List Int) : Prop := ∀ x ∈ code, 0 ≤ x ∧ x < 256
theorem lowS_bd (s : Int) : 0 ≤ lowS s ∧ lowS s < 256 := by unfold lowS; omega
theorem nextV_bd {code : List Int} (h : Bys code) (c : Cu) : 0 ≤ nextV code c ∧ nextV code c < 256 := by
  unfold nextV
  split
  · rename_i hl
    have : code[c.at']! = code[c.at'] := by simp [hl]
    rw [this]
    exact h _ (List.getElem_mem hl)
  · exact lowS_bd _
theorem pickV_bd {code : List Int} {n : Int} (hn : 0 < n) (c : Cu) : 0 ≤ pickV code n c ∧ pickV code n c < n := by
  unfold pickV
  split
  · omega
  · split
    · exact ⟨Int.emod_nonneg _ (by omega), Int.emod_lt_of_pos _ hn⟩
    · exact ⟨Int.emod_nonneg _ (by omega), Int.emod_lt_of_pos _ hn⟩
theorem wideV_bd {code : List Int} {n : Int} (hn : 0 < n) (c : Cu) : 0 ≤ wideV code n c ∧ wideV code n c < n :=
  ⟨Int.emod_nonneg _ (by omega), Int.emod_lt_of_pos _ hn⟩
theorem pickC_at (code : List Int) (n : Int) (c : Cu) : (pickC code n c).at' ≤ c.at' + 2 := by
  unfold pickC
  split
  · omega
  · split
    · show c.at' + 1 + 1 ≤ c.at' + 2; omega
    · show c.at' + 1 ≤ c.at' + 2; omega
theorem wideC_at (code : List Int) (c : Cu) : (wideC code c).at' = c.at' + 2 := rfl
end Go.Proofs.YtcodpnkfpmjleaaGreatDoor

namespace Go.Proofs.YtcodpnkfpmjleaaGreatDoor
open Go.RowKit
set_option maxHeartbeats 1000000

/-- Of the blocks that were there only some from B to below C have turned. -/
structure Mid (B C : Nat) (w w' : World) : Prop where
  os : w'.os = w.os
  tape : w'.tape = w.tape
  output : w'.output = w.output
  size : w.heap.size ≤ w'.heap.size
  block : ∀ k, k < w.heap.size → (k < B ∨ C ≤ k) → w'.heap[k]? = w.heap[k]?

theorem Mid.refl (B C : Nat) (w : World) : Mid B C w w := ⟨rfl, rfl, rfl, Nat.le_refl _, fun _ _ _ => rfl⟩
theorem Mid.trans {B C : Nat} {a b c : World} (h : Mid B C a b) (k : Mid B C b c) : Mid B C a c :=
  ⟨k.os.trans h.os, k.tape.trans h.tape, k.output.trans h.output, Nat.le_trans h.size k.size, fun i hi hc => (k.block i (Nat.lt_of_lt_of_le hi h.size) hc).trans (h.block i hi hc)⟩
theorem Mid.wide {B C B' C' : Nat} {w w' : World} (h : Mid B C w w') (hB : B' ≤ B) (hC : C ≤ C') : Mid B' C' w w' :=
  ⟨h.os, h.tape, h.output, h.size, fun k hk hc => h.block k hk (by omega)⟩
theorem Mid.of_below {B C : Nat} {w w' : World} (h : Below w.heap.size w w') : Mid B C w w' := ⟨h.os, h.tape, h.output, h.size, fun k hk _ => h.block k hk⟩
theorem Mid.setCell {B C : Nat} {a w : World} (h : Mid B C a w) {b o : Nat} (hB : B ≤ b) (hC : b < C) (u : Value) : Mid B C a (w.setCell ⟨b, o, none⟩ u) :=
  h.trans ⟨rfl, rfl, rfl, by simp [World.setCell], fun k _ hc => Below.heap_setCell _ _ _ _ (by show k ≠ b; omega)⟩
theorem Mid.below {B C : Nat} {w w' : World} (h : Mid B C w w') (hB : B ≤ w.heap.size) : Below B w w' := ⟨h.os, h.tape, h.output, h.size, fun k hk => h.block k (by omega) (by omega)⟩
theorem Mid.cell {B C : Nat} {w w' : World} (h : Mid B C w w') {b o : Nat} {v : Value} (hb : b < B ∨ C ≤ b) (hc : w.cell? ⟨b, o, none⟩ = some v) : w'.cell? ⟨b, o, none⟩ = some v := by
  rw [World.cell?_of_block (w := w) (w' := w') (a := ⟨b, o, none⟩) (h.block b (cell_lt hc) hb)]; exact hc
theorem Mid.row {B C : Nat} {w w' : World} (h : Mid B C w w') {b n : Nat} {t : TypeId} (hb : b < B ∨ C ≤ b) (hr : Row w b t n) : Row w' b t n := by
  obtain ⟨f, hf⟩ := hr
  exact ⟨f, hf.of_block (h.block b hf.lt hb)⟩

/-- A list of ends that a call has made, or none. -/
def OwnEnds (w : World) (a : Option Addr) (n : Nat) : Prop := n = 0 ∨ ∃ b, a = some ⟨b, 0, none⟩ ∧ Row w b 75 (n * 2)
def Marked (w : World) (a : Option Addr) (n : Nat) (k : Int) : Prop := ∀ i, i < n → ∃ b, a = some ⟨b, 0, none⟩ ∧ w.cell? ⟨b, i * 2, none⟩ = some (.int .i64 (k + 2 * i)) ∧ w.cell? ⟨b, i * 2 + 1, none⟩ = some (.int .i64 (k + 2 * i + 1))

end Go.Proofs.YtcodpnkfpmjleaaGreatDoor

/- The reader of choices: next, pick, wide. Own work. -/
namespace Go.Proofs.YtcodpnkfpmjleaaGreatDoor
open Go.RowKit
set_option maxHeartbeats 1000000

/-- Bytes in memory. -/
def BytesAt (w : World) (a : Option Addr) (xs : List Int) : Prop :=
  ∀ k (_ : k < xs.length), ∃ b off, a = some ⟨b, off, none⟩ ∧ w.cell? ⟨b, off + k, none⟩ = some (.int .u8 xs[k])
theorem BytesAt.later {w w' : World} {a xs} (h : BytesAt w a xs) (hb : Below w.heap.size w w') : BytesAt w' a xs := by
  intro k hk
  obtain ⟨b, off, ha, h1⟩ := h k hk
  exact ⟨b, off, ha, cell_later' hb h1⟩
/-- The bytes lie elsewhere than in block B. -/
def OffB (a : Option Addr) (n B : Nat) : Prop := ∀ b off, a = some ⟨b, off, none⟩ → n = 0 ∨ b < B
theorem BytesAt.mid {w w' : World} {a xs} {B C : Nat} (h : BytesAt w a xs) (hm : Mid B C w w') (ho : OffB a xs.length B) : BytesAt w' a xs := by
  intro k hk
  obtain ⟨b, off, ha, h1⟩ := h k hk
  exact ⟨b, off, ha, hm.cell (.inl (by have := ho b off ha; omega)) h1⟩

/-- The reader in block b. -/
structure CurAt (w : World) (b : Nat) (a : Option Addr) (n cap : Nat) (c : Cu) : Prop where
  c0 : w.cell? ⟨b, 0, none⟩ = some (.slice a n cap)
  c1 : w.cell? ⟨b, 1, none⟩ = some (.int .i64 c.at')
  c2 : w.cell? ⟨b, 2, none⟩ = some (.int .u64 c.seed)
  f1 : w.frozen? ⟨b, 1, none⟩ = false
  f2 : w.frozen? ⟨b, 2, none⟩ = false
theorem CurAt.later {w w' : World} {b : Nat} {a : Option Addr} {n cap : Nat} {c : Cu} (h : CurAt w b a n cap c) (hb : Below w.heap.size w w') : CurAt w' b a n cap c where
  c0 := cell_later' hb h.c0
  c1 := cell_later' hb h.c1
  c2 := cell_later' hb h.c2
  f1 := by rw [hb.frozen (p := ⟨b, 1, none⟩) (cell_lt h.c0)]; exact h.f1
  f2 := by rw [hb.frozen (p := ⟨b, 2, none⟩) (cell_lt h.c0)]; exact h.f2

theorem u64_bd (x : Int) : 0 ≤ IntKind.u64.wrap x ∧ IntKind.u64.wrap x < 18446744073709551616 := by
  simp only [IntKind.wrap, IntKind.bits, IntKind.signed]
  simp
  omega
theorem u64_small (n : Int) (h0 : 0 ≤ n) (h1 : n < 2 ^ 24) : IntKind.u64.wrap n = n := by
  simp only [IntKind.wrap, IntKind.bits, IntKind.signed]
  simp
  omega
theorem low_eq (x : Int) (h0 : 0 ≤ x) (h1 : x < 18446744073709551616) : wrap64 (bits BinOp.and IntKind.u64 (x / 1099511627776) 255) = lowS x := by
  have h := bits_mask .u64 24 (by decide) u64_small 8 (by decide) (x / 1099511627776) (by omega) (by omega)
  have e : ((2 : Int) ^ 8 - 1) = 255 := by decide
  rw [e] at h
  rw [h]
  unfold lowS wrap64
  omega
/-- The reader has read one more. -/
theorem cur_put {w : World} {b : Nat} {a : Option Addr} {n cap : Nat} {c : Cu} (h : CurAt w b a n cap c) (c' : Cu) (W : World) (hW : W = (w.setCell ⟨b, 1, none⟩ (.int .i64 c'.at')).setCell ⟨b, 2, none⟩ (.int .u64 c'.seed) ∨ W = (w.setCell ⟨b, 2, none⟩ (.int .u64 c'.seed)).setCell ⟨b, 1, none⟩ (.int .i64 c'.at')) : CurAt W b a n cap c' ∧ Mid b (b + 1) w W := by
  obtain ⟨c0, c1, c2, f1, f2⟩ := h
  rcases hW with rfl | rfl
  · exact ⟨⟨by simp [go_sem, c0], by simp [go_sem, c1], by simp [go_sem, c2], by simp [go_sem, f1], by simp [go_sem, f2]⟩, ((Mid.refl _ _ _).setCell (Nat.le_refl _) (by omega) _).setCell (Nat.le_refl _) (by omega) _⟩
  · exact ⟨⟨by simp [go_sem, c0], by simp [go_sem, c1], by simp [go_sem, c2], by simp [go_sem, f1], by simp [go_sem, f2]⟩, ((Mid.refl _ _ _).setCell (Nat.le_refl _) (by omega) _).setCell (Nat.le_refl _) (by omega) _⟩
theorem CurAt.drewN {w : World} {b : Nat} {a : Option Addr} {n cap : Nat} {c : Cu} (h : CurAt w b a n cap c) (q : Nat) : CurAt (w.drewN q) b a n cap c := h.later (below_drewN (Below.refl _ _) q)
theorem mid_drewN {B C : Nat} (w : World) (q : Nat) : Mid B C w (w.drewN q) := Mid.of_below (below_drewN (Below.refl _ _) q)

theorem next_any (b : Nat) (a : Option Addr) (cap : Nat) (code : List Int) (c : Cu) (w : World) (hB : Bys code) (hat : c.at' ≤ 4611686018427387904) (_hn : code.length ≤ 1048576) (hc : CurAt w b a code.length cap c) (hx : BytesAt w a code) :
    Calls Tryz.prog 71 #[.pointer (some ⟨b, 0, none⟩)] w fun e w' =>
    e = .returned (.int .i64 (nextV code c)) ∧ CurAt w' b a code.length cap (nextC code c) ∧ Mid b (b + 1) w w' := by
  have HCA := hide hc
  obtain ⟨c0, c1, c2, f1, f2⟩ := hc
  by_cases hl : c.at' < code.length
  · obtain ⟨xb, xo, rfl, x0⟩ := hx _ hl
    have hi : (c.at' : Int) < (code.length : Int) := by omega
    have hg : code[c.at']! = code[c.at'] := by simp [hl]
    have hbd := hB _ (List.getElem_mem hl)
    have HV := hide (show nextV code c = code[c.at'] by unfold nextV; rw [if_pos hl, hg])
    have HC := hide (show nextC code c = ⟨c.at' + 1, addS c.seed code[c.at']⟩ by unfold nextC; rw [if_pos hl, hg])
    generalize code[c.at'] = v at *
    clear hx hg
    go_enter Tryz.func71, Tryz.ntmps71
    go_wp2_with fail
    go_quiet (fail)
    go_wp2_with fail
    go_quiet (fail)
    go_wp2_with fail
    go_ret
    rw [HV.out, HC.out]
    obtain ⟨h1, h2⟩ := cur_put (HCA.out.drewN _) ⟨c.at' + 1, addS c.seed v⟩ _ (.inl rfl)
    exact ⟨rfl, h1, (mid_drewN w _).trans h2⟩
  · have HV := hide (show nextV code c = lowS (stepS c.seed) by unfold nextV; rw [if_neg hl])
    have HC := hide (show nextC code c = ⟨c.at' + 1, stepS c.seed⟩ by unfold nextC; rw [if_neg hl])
    have hi : decide ((c.at' : Int) < (code.length : Int)) = false := by rw [decide_eq_false_iff_not]; omega
    clear hx
    go_enter Tryz.func71, Tryz.ntmps71
    go_wp2_with fail
    go_quiet (fail)
    go_wp2_with fail
    go_ret
    rw [HV.out, HC.out]
    obtain ⟨h1, h2⟩ := cur_put (HCA.out.drewN _) ⟨c.at' + 1, stepS c.seed⟩ _ (.inr rfl)
    exact ⟨ret_i (low_eq _ (u64_bd _).1 (u64_bd _).2), h1, (mid_drewN w _).trans h2⟩

/-- What is read of the bytes stays where the reader turns. -/
theorem pick_any (b : Nat) (a : Option Addr) (cap : Nat) (code : List Int) (c : Cu) (n : Int) (w : World) (hB : Bys code) (hat : c.at' ≤ 4611686018427387000) (hn : code.length ≤ 1048576) (ho : OffB a code.length b) (h0 : 0 ≤ n) (h1 : n ≤ 1048576) (hc : CurAt w b a code.length cap c) (hx : BytesAt w a code) :
    Calls Tryz.prog 31 #[.pointer (some ⟨b, 0, none⟩), .int .i64 n] w fun e w' =>
    e = .returned (.int .i64 (pickV code n c)) ∧ CurAt w' b a code.length cap (pickC code n c) ∧ Mid b (b + 1) w w' := by
  have HCA := hide hc
  have HX := hide hx
  have HB := hide hB
  clear hc hx hB
  by_cases hn1 : n ≤ 1
  · have HV := hide (show pickV code n c = 0 by unfold pickV; rw [if_pos hn1])
    have HC := hide (show pickC code n c = c by unfold pickC; rw [if_pos hn1])
    go_enter Tryz.func31, Tryz.ntmps31
    go_wp2_with fail
    go_ret
    rw [HV.out, HC.out]
    exact ⟨rfl, HCA.out, Mid.refl _ _ _⟩
  · have hn1' : decide (n ≤ 1) = false := by rw [decide_eq_false_iff_not]; exact hn1
    by_cases hn2 : n > 200
    · have HV := hide (show pickV code n c = (nextV code c * 256 + nextV code (nextC code c)) % n by unfold pickV; rw [if_neg hn1, if_pos hn2])
      have HC := hide (show pickC code n c = nextC code (nextC code c) by unfold pickC; rw [if_neg hn1, if_pos hn2])
      have b1 := nextV_bd HB.out c
      have b2 := nextV_bd HB.out (nextC code c)
      have hn2' : decide (200 < n) = true := by rw [decide_eq_true_iff]; omega
      have hn0 : ¬ n = 0 := by omega
      go_enter Tryz.func31, Tryz.ntmps31
      go_wp2_with fail
      refine (next_any b a cap code c _ HB.out (by omega) hn HCA.out HX.out).mono ?_
      rintro e w1 ⟨rfl, hc1, hm1⟩
      have HC1 := hide hc1
      have HX1 := hide (HX.out.mid hm1 ho)
      have HM1 := hide hm1
      clear hc1 hm1
      generalize nextV code c = x at *
      go_wp2_with fail
      refine (next_any b a cap code _ _ HB.out (by show c.at' + 1 ≤ _; omega) hn HC1.out HX1.out).mono ?_
      rintro e w2 ⟨rfl, hc2, hm2⟩
      have HC2 := hide hc2
      have HM2 := hide (HM1.out.trans hm2)
      clear hc2 hm2
      generalize nextV code (nextC code c) = y at *
      go_wp2_with fail
      go_ret
      rw [HV.out, HC.out]
      exact ⟨rfl, HC2.out, HM2.out⟩
    · have HV := hide (show pickV code n c = nextV code c % n by unfold pickV; rw [if_neg hn1, if_neg hn2])
      have HC := hide (show pickC code n c = nextC code c by unfold pickC; rw [if_neg hn1, if_neg hn2])
      have b1 := nextV_bd HB.out c
      have hn2' : decide (200 < n) = false := by rw [decide_eq_false_iff_not]; omega
      have hn0 : ¬ n = 0 := by omega
      go_enter Tryz.func31, Tryz.ntmps31
      go_wp2_with fail
      refine (next_any b a cap code c _ HB.out (by omega) hn HCA.out HX.out).mono ?_
      rintro e w1 ⟨rfl, hc1, hm1⟩
      have HC1 := hide hc1
      have HM1 := hide hm1
      clear hc1 hm1
      generalize nextV code c = x at *
      go_wp2_with fail
      go_ret
      rw [HV.out, HC.out]
      exact ⟨rfl, HC1.out, HM1.out⟩

theorem wide_any (b : Nat) (a : Option Addr) (cap : Nat) (code : List Int) (c : Cu) (n : Int) (w : World) (hB : Bys code) (hat : c.at' ≤ 4611686018427387000) (hn : code.length ≤ 1048576) (ho : OffB a code.length b) (h0 : 1 ≤ n) (h1 : n ≤ 10000001) (hc : CurAt w b a code.length cap c) (hx : BytesAt w a code) :
    Calls Tryz.prog 32 #[.pointer (some ⟨b, 0, none⟩), .int .i64 n] w fun e w' =>
    e = .returned (.int .i64 (wideV code n c)) ∧ CurAt w' b a code.length cap (wideC code c) ∧ Mid b (b + 1) w w' := by
  have HCA := hide hc
  have HX := hide hx
  have HB := hide hB
  clear hc hx hB
  have b1 := nextV_bd HB.out c
  have b2 := nextV_bd HB.out (nextC code c)
  have HV := hide (show wideV code n c = (nextV code c * 256 + nextV code (nextC code c)) % n from rfl)
  have HC := hide (show wideC code c = nextC code (nextC code c) from rfl)
  have hn0 : ¬ n = 0 := by omega
  go_enter Tryz.func32, Tryz.ntmps32
  go_wp2_with fail
  refine (next_any b a cap code c _ HB.out (by omega) hn HCA.out HX.out).mono ?_
  rintro e w1 ⟨rfl, hc1, hm1⟩
  have HC1 := hide hc1
  have HX1 := hide (HX.out.mid hm1 ho)
  have HM1 := hide hm1
  clear hc1 hm1
  generalize nextV code c = x at *
  go_wp2_with fail
  refine (next_any b a cap code _ _ HB.out (by show c.at' + 1 ≤ _; omega) hn HC1.out HX1.out).mono ?_
  rintro e w2 ⟨rfl, hc2, hm2⟩
  have HC2 := hide hc2
  have HM2 := hide (HM1.out.trans hm2)
  clear hc2 hm2
  generalize nextV code (nextC code c) = y at *
  go_wp2_with fail
  go_ret
  rw [HV.out, HC.out]
  exact ⟨rfl, HC2.out, HM2.out⟩
end Go.Proofs.YtcodpnkfpmjleaaGreatDoor

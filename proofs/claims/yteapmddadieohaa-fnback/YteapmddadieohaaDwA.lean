/- The reader of choices: next, pick, wide. Own work. -/
import Derived.Test.YteapmddadieohaaMxAB
import Derived.Deep.QuietTactic
import Derived.BigQuiet
import Derived.Laws.BitsLemmas
namespace Go.Proofs.Yteapmddadieohaa
open Go.RowKit
set_option maxHeartbeats 1000000

/-- Bytes in memory. -/
def BytesAt (w : World) (a : Option Addr) (xs : List Int) : Prop :=
  ∀ k (_ : k < xs.length), ∃ b off, a = some ⟨b, off, none⟩ ∧ w.cell? ⟨b, off + k, none⟩ = some (.int .u8 xs[k])
theorem BytesAt.later {w w' : World} {a xs} (h : BytesAt w a xs) (hb : Below w.heap.size w w') : BytesAt w' a xs := by
  intro k hk
  obtain ⟨b, off, ha, h1⟩ := h k hk
  exact ⟨b, off, ha, cell_later' hb h1⟩
/-- The bytes lie elsewhere than in block B. -/
def OffB (a : Option Addr) (n B : Nat) : Prop := ∀ b off, a = some ⟨b, off, none⟩ → n = 0 ∨ b < B
theorem BytesAt.mid {w w' : World} {a xs} {B C : Nat} (h : BytesAt w a xs) (hm : Mid B C w w') (ho : OffB a xs.length B) : BytesAt w' a xs := by
  intro k hk
  obtain ⟨b, off, ha, h1⟩ := h k hk
  exact ⟨b, off, ha, hm.cell (.inl (by have := ho b off ha; omega)) h1⟩

/-- The reader in block b. -/
structure CurAt (w : World) (b : Nat) (a : Option Addr) (n cap : Nat) (c : Cu) : Prop where
  c0 : w.cell? ⟨b, 0, none⟩ = some (.slice a n cap)
  c1 : w.cell? ⟨b, 1, none⟩ = some (.int .i64 c.at')
  c2 : w.cell? ⟨b, 2, none⟩ = some (.int .u64 c.seed)
  f1 : w.frozen? ⟨b, 1, none⟩ = false
  f2 : w.frozen? ⟨b, 2, none⟩ = false
theorem CurAt.later {w w' : World} {b : Nat} {a : Option Addr} {n cap : Nat} {c : Cu} (h : CurAt w b a n cap c) (hb : Below w.heap.size w w') : CurAt w' b a n cap c where
  c0 := cell_later' hb h.c0
  c1 := cell_later' hb h.c1
  c2 := cell_later' hb h.c2
  f1 := by rw [hb.frozen (p := ⟨b, 1, none⟩) (cell_lt h.c0)]; exact h.f1
  f2 := by rw [hb.frozen (p := ⟨b, 2, none⟩) (cell_lt h.c0)]; exact h.f2

theorem u64_bd (x : Int) : 0 ≤ IntKind.u64.wrap x ∧ IntKind.u64.wrap x < 18446744073709551616 := by
  simp only [IntKind.wrap, IntKind.bits, IntKind.signed]
  simp
  omega
theorem u64_small (n : Int) (h0 : 0 ≤ n) (h1 : n < 2 ^ 24) : IntKind.u64.wrap n = n := by
  simp only [IntKind.wrap, IntKind.bits, IntKind.signed]
  simp
  omega
theorem low_eq (x : Int) (h0 : 0 ≤ x) (h1 : x < 18446744073709551616) : wrap64 (bits BinOp.and IntKind.u64 (x / 1099511627776) 255) = lowS x := by
  have h := bits_mask .u64 24 (by decide) u64_small 8 (by decide) (x / 1099511627776) (by omega) (by omega)
  have e : ((2 : Int) ^ 8 - 1) = 255 := by decide
  rw [e] at h
  rw [h]
  unfold lowS wrap64
  omega
/-- The reader has read one more. -/
theorem cur_put {w : World} {b : Nat} {a : Option Addr} {n cap : Nat} {c : Cu} (h : CurAt w b a n cap c) (c' : Cu) (W : World) (hW : W = (w.setCell ⟨b, 1, none⟩ (.int .i64 c'.at')).setCell ⟨b, 2, none⟩ (.int .u64 c'.seed) ∨ W = (w.setCell ⟨b, 2, none⟩ (.int .u64 c'.seed)).setCell ⟨b, 1, none⟩ (.int .i64 c'.at')) : CurAt W b a n cap c' ∧ Mid b (b + 1) w W := by
  obtain ⟨c0, c1, c2, f1, f2⟩ := h
  rcases hW with rfl | rfl
  · exact ⟨⟨by simp [go_sem, c0], by simp [go_sem, c1], by simp [go_sem, c2], by simp [go_sem, f1], by simp [go_sem, f2]⟩, ((Mid.refl _ _ _).setCell (Nat.le_refl _) (by omega) _).setCell (Nat.le_refl _) (by omega) _⟩
  · exact ⟨⟨by simp [go_sem, c0], by simp [go_sem, c1], by simp [go_sem, c2], by simp [go_sem, f1], by simp [go_sem, f2]⟩, ((Mid.refl _ _ _).setCell (Nat.le_refl _) (by omega) _).setCell (Nat.le_refl _) (by omega) _⟩
theorem CurAt.drewN {w : World} {b : Nat} {a : Option Addr} {n cap : Nat} {c : Cu} (h : CurAt w b a n cap c) (q : Nat) : CurAt (w.drewN q) b a n cap c := h.later (below_drewN (Below.refl _ _) q)
theorem mid_drewN {B C : Nat} (w : World) (q : Nat) : Mid B C w (w.drewN q) := Mid.of_below (below_drewN (Below.refl _ _) q)

theorem next_any (b : Nat) (a : Option Addr) (cap : Nat) (code : List Int) (c : Cu) (w : World) (hB : Bys code) (hat : c.at' ≤ 4611686018427387904) (_hn : code.length ≤ 1048576) (hc : CurAt w b a code.length cap c) (hx : BytesAt w a code) :
    Calls Try.prog 27 #[.pointer (some ⟨b, 0, none⟩)] w fun e w' =>
    e = .returned (.int .i64 (nextV code c)) ∧ CurAt w' b a code.length cap (nextC code c) ∧ Mid b (b + 1) w w' := by
  have HCA := hide hc
  obtain ⟨c0, c1, c2, f1, f2⟩ := hc
  by_cases hl : c.at' < code.length
  · obtain ⟨xb, xo, rfl, x0⟩ := hx _ hl
    have hi : (c.at' : Int) < (code.length : Int) := by omega
    have hg : code[c.at']! = code[c.at'] := by simp [hl]
    have hbd := hB _ (List.getElem_mem hl)
    have HV := hide (show nextV code c = code[c.at'] by unfold nextV; rw [if_pos hl, hg])
    have HC := hide (show nextC code c = ⟨c.at' + 1, addS c.seed code[c.at']⟩ by unfold nextC; rw [if_pos hl, hg])
    generalize code[c.at'] = v at *
    clear hx hg
    go_enter Try.func27, Try.ntmps27
    go_wp2_with fail
    go_quiet (fail)
    go_wp2_with fail
    go_quiet (fail)
    go_wp2_with fail
    go_ret
    rw [HV.out, HC.out]
    obtain ⟨h1, h2⟩ := cur_put (HCA.out.drewN _) ⟨c.at' + 1, addS c.seed v⟩ _ (.inl rfl)
    exact ⟨rfl, h1, (mid_drewN w _).trans h2⟩
  · have HV := hide (show nextV code c = lowS (stepS c.seed) by unfold nextV; rw [if_neg hl])
    have HC := hide (show nextC code c = ⟨c.at' + 1, stepS c.seed⟩ by unfold nextC; rw [if_neg hl])
    have hi : decide ((c.at' : Int) < (code.length : Int)) = false := by rw [decide_eq_false_iff_not]; omega
    clear hx
    go_enter Try.func27, Try.ntmps27
    go_wp2_with fail
    go_quiet (fail)
    go_wp2_with fail
    go_ret
    rw [HV.out, HC.out]
    obtain ⟨h1, h2⟩ := cur_put (HCA.out.drewN _) ⟨c.at' + 1, stepS c.seed⟩ _ (.inr rfl)
    exact ⟨ret_i (low_eq _ (u64_bd _).1 (u64_bd _).2), h1, (mid_drewN w _).trans h2⟩

/-- What is read of the bytes stays where the reader turns. -/
theorem pick_any (b : Nat) (a : Option Addr) (cap : Nat) (code : List Int) (c : Cu) (n : Int) (w : World) (hB : Bys code) (hat : c.at' ≤ 4611686018427387000) (hn : code.length ≤ 1048576) (ho : OffB a code.length b) (h0 : 0 ≤ n) (h1 : n ≤ 1048576) (hc : CurAt w b a code.length cap c) (hx : BytesAt w a code) :
    Calls Try.prog 19 #[.pointer (some ⟨b, 0, none⟩), .int .i64 n] w fun e w' =>
    e = .returned (.int .i64 (pickV code n c)) ∧ CurAt w' b a code.length cap (pickC code n c) ∧ Mid b (b + 1) w w' := by
  have HCA := hide hc
  have HX := hide hx
  have HB := hide hB
  clear hc hx hB
  by_cases hn1 : n ≤ 1
  · have HV := hide (show pickV code n c = 0 by unfold pickV; rw [if_pos hn1])
    have HC := hide (show pickC code n c = c by unfold pickC; rw [if_pos hn1])
    go_enter Try.func19, Try.ntmps19
    go_wp2_with fail
    go_ret
    rw [HV.out, HC.out]
    exact ⟨rfl, HCA.out, Mid.refl _ _ _⟩
  · have hn1' : decide (n ≤ 1) = false := by rw [decide_eq_false_iff_not]; exact hn1
    by_cases hn2 : n > 200
    · have HV := hide (show pickV code n c = (nextV code c * 256 + nextV code (nextC code c)) % n by unfold pickV; rw [if_neg hn1, if_pos hn2])
      have HC := hide (show pickC code n c = nextC code (nextC code c) by unfold pickC; rw [if_neg hn1, if_pos hn2])
      have b1 := nextV_bd HB.out c
      have b2 := nextV_bd HB.out (nextC code c)
      have hn2' : decide (200 < n) = true := by rw [decide_eq_true_iff]; omega
      have hn0 : ¬ n = 0 := by omega
      go_enter Try.func19, Try.ntmps19
      go_wp2_with fail
      refine (next_any b a cap code c _ HB.out (by omega) hn HCA.out HX.out).mono ?_
      rintro e w1 ⟨rfl, hc1, hm1⟩
      have HC1 := hide hc1
      have HX1 := hide (HX.out.mid hm1 ho)
      have HM1 := hide hm1
      clear hc1 hm1
      generalize nextV code c = x at *
      go_wp2_with fail
      refine (next_any b a cap code _ _ HB.out (by show c.at' + 1 ≤ _; omega) hn HC1.out HX1.out).mono ?_
      rintro e w2 ⟨rfl, hc2, hm2⟩
      have HC2 := hide hc2
      have HM2 := hide (HM1.out.trans hm2)
      clear hc2 hm2
      generalize nextV code (nextC code c) = y at *
      go_wp2_with fail
      go_ret
      rw [HV.out, HC.out]
      exact ⟨rfl, HC2.out, HM2.out⟩
    · have HV := hide (show pickV code n c = nextV code c % n by unfold pickV; rw [if_neg hn1, if_neg hn2])
      have HC := hide (show pickC code n c = nextC code c by unfold pickC; rw [if_neg hn1, if_neg hn2])
      have b1 := nextV_bd HB.out c
      have hn2' : decide (200 < n) = false := by rw [decide_eq_false_iff_not]; omega
      have hn0 : ¬ n = 0 := by omega
      go_enter Try.func19, Try.ntmps19
      go_wp2_with fail
      refine (next_any b a cap code c _ HB.out (by omega) hn HCA.out HX.out).mono ?_
      rintro e w1 ⟨rfl, hc1, hm1⟩
      have HC1 := hide hc1
      have HM1 := hide hm1
      clear hc1 hm1
      generalize nextV code c = x at *
      go_wp2_with fail
      go_ret
      rw [HV.out, HC.out]
      exact ⟨rfl, HC1.out, HM1.out⟩

theorem wide_any (b : Nat) (a : Option Addr) (cap : Nat) (code : List Int) (c : Cu) (n : Int) (w : World) (hB : Bys code) (hat : c.at' ≤ 4611686018427387000) (hn : code.length ≤ 1048576) (ho : OffB a code.length b) (h0 : 1 ≤ n) (h1 : n ≤ 10000001) (hc : CurAt w b a code.length cap c) (hx : BytesAt w a code) :
    Calls Try.prog 20 #[.pointer (some ⟨b, 0, none⟩), .int .i64 n] w fun e w' =>
    e = .returned (.int .i64 (wideV code n c)) ∧ CurAt w' b a code.length cap (wideC code c) ∧ Mid b (b + 1) w w' := by
  have HCA := hide hc
  have HX := hide hx
  have HB := hide hB
  clear hc hx hB
  have b1 := nextV_bd HB.out c
  have b2 := nextV_bd HB.out (nextC code c)
  have HV := hide (show wideV code n c = (nextV code c * 256 + nextV code (nextC code c)) % n from rfl)
  have HC := hide (show wideC code c = nextC code (nextC code c) from rfl)
  have hn0 : ¬ n = 0 := by omega
  go_enter Try.func20, Try.ntmps20
  go_wp2_with fail
  refine (next_any b a cap code c _ HB.out (by omega) hn HCA.out HX.out).mono ?_
  rintro e w1 ⟨rfl, hc1, hm1⟩
  have HC1 := hide hc1
  have HX1 := hide (HX.out.mid hm1 ho)
  have HM1 := hide hm1
  clear hc1 hm1
  generalize nextV code c = x at *
  go_wp2_with fail
  refine (next_any b a cap code _ _ HB.out (by show c.at' + 1 ≤ _; omega) hn HC1.out HX1.out).mono ?_
  rintro e w2 ⟨rfl, hc2, hm2⟩
  have HC2 := hide hc2
  have HM2 := hide (HM1.out.trans hm2)
  clear hc2 hm2
  generalize nextV code (nextC code c) = y at *
  go_wp2_with fail
  go_ret
  rw [HV.out, HC.out]
  exact ⟨rfl, HC2.out, HM2.out⟩
end Go.Proofs.Yteapmddadieohaa

/- The reader of choices: next, pick, wide. Own work. -/
import Derived.Test.YtijdigdcmjdooaaGreatMxAV
import Derived.Test.YtijdigdcmjdooaaGreatMxAF
import Derived.Deep.QuietTactic
import Derived.BigQuiet
import Derived.Laws.BitsLemmas
import Derived.Deep.RegionWith
import Derived.Test.YtijdigdcmjdooaaGreatDrS
import Derived.Deep.AppendLies
namespace Go.Proofs.YtijdigdcmjdooaaGreat
open Go.RowKit
set_option maxHeartbeats 1000000

/-- Bytes in memory. -/
def BytesAt (w : World) (a : Option Addr) (xs : List Int) : Prop :=
  ∀ k (_ : k < xs.length), ∃ b off, a = some ⟨b, off, none⟩ ∧ w.cell? ⟨b, off + k, none⟩ = some (.int .u8 xs[k])
theorem BytesAt.later {w w' : World} {a xs} (h : BytesAt w a xs) (hb : Below w.heap.size w w') : BytesAt w' a xs := by
  intro k hk
  obtain ⟨b, off, ha, h1⟩ := h k hk
  exact ⟨b, off, ha, cell_later' hb h1⟩
/-- The bytes lie elsewhere than in block B. -/
def OffB (a : Option Addr) (n B : Nat) : Prop := ∀ b off, a = some ⟨b, off, none⟩ → n = 0 ∨ b < B
theorem BytesAt.mid {w w' : World} {a xs} {B C : Nat} (h : BytesAt w a xs) (hm : Mid B C w w') (ho : OffB a xs.length B) : BytesAt w' a xs := by
  intro k hk
  obtain ⟨b, off, ha, h1⟩ := h k hk
  exact ⟨b, off, ha, hm.cell (.inl (by have := ho b off ha; omega)) h1⟩

/-- The reader in block b. -/
structure CurAt (w : World) (b : Nat) (a : Option Addr) (n cap : Nat) (c : Cu) : Prop where
  c0 : w.cell? ⟨b, 0, none⟩ = some (.slice a n cap)
  c1 : w.cell? ⟨b, 1, none⟩ = some (.int .i64 c.at')
  c2 : w.cell? ⟨b, 2, none⟩ = some (.int .u64 c.seed)
  f1 : w.frozen? ⟨b, 1, none⟩ = false
  f2 : w.frozen? ⟨b, 2, none⟩ = false
theorem CurAt.later {w w' : World} {b : Nat} {a : Option Addr} {n cap : Nat} {c : Cu} (h : CurAt w b a n cap c) (hb : Below w.heap.size w w') : CurAt w' b a n cap c where
  c0 := cell_later' hb h.c0
  c1 := cell_later' hb h.c1
  c2 := cell_later' hb h.c2
  f1 := by rw [hb.frozen (p := ⟨b, 1, none⟩) (cell_lt h.c0)]; exact h.f1
  f2 := by rw [hb.frozen (p := ⟨b, 2, none⟩) (cell_lt h.c0)]; exact h.f2

theorem u64_bd (x : Int) : 0 ≤ IntKind.u64.wrap x ∧ IntKind.u64.wrap x < 18446744073709551616 := by
  simp only [IntKind.wrap, IntKind.bits, IntKind.signed]
  simp
  omega
theorem u64_small (n : Int) (h0 : 0 ≤ n) (h1 : n < 2 ^ 24) : IntKind.u64.wrap n = n := by
  simp only [IntKind.wrap, IntKind.bits, IntKind.signed]
  simp
  omega
theorem low_eq (x : Int) (h0 : 0 ≤ x) (h1 : x < 18446744073709551616) : wrap64 (bits BinOp.and IntKind.u64 (x / 1099511627776) 255) = lowS x := by
  have h := bits_mask .u64 24 (by decide) u64_small 8 (by decide) (x / 1099511627776) (by omega) (by omega)
  have e : ((2 : Int) ^ 8 - 1) = 255 := by decide
  rw [e] at h
  rw [h]
  unfold lowS wrap64
  omega
/-- The reader has read one more. -/
theorem cur_put {w : World} {b : Nat} {a : Option Addr} {n cap : Nat} {c : Cu} (h : CurAt w b a n cap c) (c' : Cu) (W : World) (hW : W = (w.setCell ⟨b, 1, none⟩ (.int .i64 c'.at')).setCell ⟨b, 2, none⟩ (.int .u64 c'.seed) ∨ W = (w.setCell ⟨b, 2, none⟩ (.int .u64 c'.seed)).setCell ⟨b, 1, none⟩ (.int .i64 c'.at')) : CurAt W b a n cap c' ∧ Mid b (b + 1) w W := by
  obtain ⟨c0, c1, c2, f1, f2⟩ := h
  rcases hW with rfl | rfl
  · exact ⟨⟨by simp [go_sem, c0], by simp [go_sem, c1], by simp [go_sem, c2], by simp [go_sem, f1], by simp [go_sem, f2]⟩, ((Mid.refl _ _ _).setCell (Nat.le_refl _) (by omega) _).setCell (Nat.le_refl _) (by omega) _⟩
  · exact ⟨⟨by simp [go_sem, c0], by simp [go_sem, c1], by simp [go_sem, c2], by simp [go_sem, f1], by simp [go_sem, f2]⟩, ((Mid.refl _ _ _).setCell (Nat.le_refl _) (by omega) _).setCell (Nat.le_refl _) (by omega) _⟩
theorem CurAt.drewN {w : World} {b : Nat} {a : Option Addr} {n cap : Nat} {c : Cu} (h : CurAt w b a n cap c) (q : Nat) : CurAt (w.drewN q) b a n cap c := h.later (below_drewN (Below.refl _ _) q)
theorem mid_drewN {B C : Nat} (w : World) (q : Nat) : Mid B C w (w.drewN q) := Mid.of_below (below_drewN (Below.refl _ _) q)

theorem next_any (b : Nat) (a : Option Addr) (cap : Nat) (code : List Int) (c : Cu) (w : World) (hB : Bys code) (hat : c.at' ≤ 4611686018427387904) (_hn : code.length ≤ 1048576) (hc : CurAt w b a code.length cap c) (hx : BytesAt w a code) :
    Calls Tryz.prog 55 #[.pointer (some ⟨b, 0, none⟩)] w fun e w' =>
    e = .returned (.int .i64 (nextV code c)) ∧ CurAt w' b a code.length cap (nextC code c) ∧ Mid b (b + 1) w w' := by
  have HCA := hide hc
  obtain ⟨c0, c1, c2, f1, f2⟩ := hc
  by_cases hl : c.at' < code.length
  · obtain ⟨xb, xo, rfl, x0⟩ := hx _ hl
    have hi : (c.at' : Int) < (code.length : Int) := by omega
    have hg : code[c.at']! = code[c.at'] := by simp [hl]
    have hbd := hB _ (List.getElem_mem hl)
    have HV := hide (show nextV code c = code[c.at'] by unfold nextV; rw [if_pos hl, hg])
    have HC := hide (show nextC code c = ⟨c.at' + 1, addS c.seed code[c.at']⟩ by unfold nextC; rw [if_pos hl, hg])
    generalize code[c.at'] = v at *
    clear hx hg
    go_enter Tryz.func55, Tryz.ntmps55
    go_wp2_with fail
    go_quiet (fail)
    go_wp2_with fail
    go_quiet (fail)
    go_wp2_with fail
    go_ret
    rw [HV.out, HC.out]
    obtain ⟨h1, h2⟩ := cur_put (HCA.out.drewN _) ⟨c.at' + 1, addS c.seed v⟩ _ (.inl rfl)
    exact ⟨rfl, h1, (mid_drewN w _).trans h2⟩
  · have HV := hide (show nextV code c = lowS (stepS c.seed) by unfold nextV; rw [if_neg hl])
    have HC := hide (show nextC code c = ⟨c.at' + 1, stepS c.seed⟩ by unfold nextC; rw [if_neg hl])
    have hi : decide ((c.at' : Int) < (code.length : Int)) = false := by rw [decide_eq_false_iff_not]; omega
    clear hx
    go_enter Tryz.func55, Tryz.ntmps55
    go_wp2_with fail
    go_quiet (fail)
    go_wp2_with fail
    go_ret
    rw [HV.out, HC.out]
    obtain ⟨h1, h2⟩ := cur_put (HCA.out.drewN _) ⟨c.at' + 1, stepS c.seed⟩ _ (.inr rfl)
    exact ⟨ret_i (low_eq _ (u64_bd _).1 (u64_bd _).2), h1, (mid_drewN w _).trans h2⟩

/-- What is read of the bytes stays where the reader turns. -/
theorem pick_any (b : Nat) (a : Option Addr) (cap : Nat) (code : List Int) (c : Cu) (n : Int) (w : World) (hB : Bys code) (hat : c.at' ≤ 4611686018427387000) (hn : code.length ≤ 1048576) (ho : OffB a code.length b) (h0 : 0 ≤ n) (h1 : n ≤ 1048576) (hc : CurAt w b a code.length cap c) (hx : BytesAt w a code) :
    Calls Tryz.prog 23 #[.pointer (some ⟨b, 0, none⟩), .int .i64 n] w fun e w' =>
    e = .returned (.int .i64 (pickV code n c)) ∧ CurAt w' b a code.length cap (pickC code n c) ∧ Mid b (b + 1) w w' := by
  have HCA := hide hc
  have HX := hide hx
  have HB := hide hB
  clear hc hx hB
  by_cases hn1 : n ≤ 1
  · have HV := hide (show pickV code n c = 0 by unfold pickV; rw [if_pos hn1])
    have HC := hide (show pickC code n c = c by unfold pickC; rw [if_pos hn1])
    go_enter Tryz.func23, Tryz.ntmps23
    go_wp2_with fail
    go_ret
    rw [HV.out, HC.out]
    exact ⟨rfl, HCA.out, Mid.refl _ _ _⟩
  · have hn1' : decide (n ≤ 1) = false := by rw [decide_eq_false_iff_not]; exact hn1
    by_cases hn2 : n > 200
    · have HV := hide (show pickV code n c = (nextV code c * 256 + nextV code (nextC code c)) % n by unfold pickV; rw [if_neg hn1, if_pos hn2])
      have HC := hide (show pickC code n c = nextC code (nextC code c) by unfold pickC; rw [if_neg hn1, if_pos hn2])
      have b1 := nextV_bd HB.out c
      have b2 := nextV_bd HB.out (nextC code c)
      have hn2' : decide (200 < n) = true := by rw [decide_eq_true_iff]; omega
      have hn0 : ¬ n = 0 := by omega
      go_enter Tryz.func23, Tryz.ntmps23
      go_wp2_with fail
      refine (next_any b a cap code c _ HB.out (by omega) hn HCA.out HX.out).mono ?_
      rintro e w1 ⟨rfl, hc1, hm1⟩
      have HC1 := hide hc1
      have HX1 := hide (HX.out.mid hm1 ho)
      have HM1 := hide hm1
      clear hc1 hm1
      generalize nextV code c = x at *
      go_wp2_with fail
      refine (next_any b a cap code _ _ HB.out (by show c.at' + 1 ≤ _; omega) hn HC1.out HX1.out).mono ?_
      rintro e w2 ⟨rfl, hc2, hm2⟩
      have HC2 := hide hc2
      have HM2 := hide (HM1.out.trans hm2)
      clear hc2 hm2
      generalize nextV code (nextC code c) = y at *
      go_wp2_with fail
      go_ret
      rw [HV.out, HC.out]
      exact ⟨rfl, HC2.out, HM2.out⟩
    · have HV := hide (show pickV code n c = nextV code c % n by unfold pickV; rw [if_neg hn1, if_neg hn2])
      have HC := hide (show pickC code n c = nextC code c by unfold pickC; rw [if_neg hn1, if_neg hn2])
      have b1 := nextV_bd HB.out c
      have hn2' : decide (200 < n) = false := by rw [decide_eq_false_iff_not]; omega
      have hn0 : ¬ n = 0 := by omega
      go_enter Tryz.func23, Tryz.ntmps23
      go_wp2_with fail
      refine (next_any b a cap code c _ HB.out (by omega) hn HCA.out HX.out).mono ?_
      rintro e w1 ⟨rfl, hc1, hm1⟩
      have HC1 := hide hc1
      have HM1 := hide hm1
      clear hc1 hm1
      generalize nextV code c = x at *
      go_wp2_with fail
      go_ret
      rw [HV.out, HC.out]
      exact ⟨rfl, HC1.out, HM1.out⟩

theorem wide_any (b : Nat) (a : Option Addr) (cap : Nat) (code : List Int) (c : Cu) (n : Int) (w : World) (hB : Bys code) (hat : c.at' ≤ 4611686018427387000) (hn : code.length ≤ 1048576) (ho : OffB a code.length b) (h0 : 1 ≤ n) (h1 : n ≤ 10000001) (hc : CurAt w b a code.length cap c) (hx : BytesAt w a code) :
    Calls Tryz.prog 24 #[.pointer (some ⟨b, 0, none⟩), .int .i64 n] w fun e w' =>
    e = .returned (.int .i64 (wideV code n c)) ∧ CurAt w' b a code.length cap (wideC code c) ∧ Mid b (b + 1) w w' := by
  have HCA := hide hc
  have HX := hide hx
  have HB := hide hB
  clear hc hx hB
  have b1 := nextV_bd HB.out c
  have b2 := nextV_bd HB.out (nextC code c)
  have HV := hide (show wideV code n c = (nextV code c * 256 + nextV code (nextC code c)) % n from rfl)
  have HC := hide (show wideC code c = nextC code (nextC code c) from rfl)
  have hn0 : ¬ n = 0 := by omega
  go_enter Tryz.func24, Tryz.ntmps24
  go_wp2_with fail
  refine (next_any b a cap code c _ HB.out (by omega) hn HCA.out HX.out).mono ?_
  rintro e w1 ⟨rfl, hc1, hm1⟩
  have HC1 := hide hc1
  have HX1 := hide (HX.out.mid hm1 ho)
  have HM1 := hide hm1
  clear hc1 hm1
  generalize nextV code c = x at *
  go_wp2_with fail
  refine (next_any b a cap code _ _ HB.out (by show c.at' + 1 ≤ _; omega) hn HC1.out HX1.out).mono ?_
  rintro e w2 ⟨rfl, hc2, hm2⟩
  have HC2 := hide hc2
  have HM2 := hide (HM1.out.trans hm2)
  clear hc2 hm2
  generalize nextV code (nextC code c) = y at *
  go_wp2_with fail
  go_ret
  rw [HV.out, HC.out]
  exact ⟨rfl, HC2.out, HM2.out⟩
end Go.Proofs.YtijdigdcmjdooaaGreat

/- The names that are drawn. Own work. -/
namespace Go.Proofs.YtijdigdcmjdooaaGreat
open Go.RowKit
set_option maxHeartbeats 1000000

def nameP (i : Int) : ByteArray := ByteArray.empty.push (UInt8.ofNat (97 + i % 26).toNat) ++ dtext i
theorem nameP_size {i : Int} (h : i ≤ 10000000) : (nameP i).size ≤ 9 := by
  unfold nameP
  rw [size_dig]
  have := dtext_size i h
  omega

theorem conv_at {W : World} {g : Nat} {x : Int} (h : W.cell? ⟨g, 0, none⟩ = some (.int .u8 x)) : (convert 22 9 (.slice (some ⟨g, 0, none⟩) 1 1)).run Tryz.prog W = .ok (.string (ByteArray.empty.push (UInt8.ofNat x.toNat))) W := by
  rw [run_convert_bytes_string _ _ _ _ _ _ _ Tryz.underlying22 Tryz.underlying5 Tryz.underlying9]
  rw [run_bytesToString _ _ _ _ [x] (by simp [loadCells, go_sem, h])]
  rfl
theorem box_d {w w1 : World} {cs : Array Value} {T : TypeId} (hb : Below (w.alloc (.cells cs T)).drew.heap.size (w.alloc (.cells cs T)).drew w1) (i : Nat) (v : Value) (h : cs[i]? = some v) : w1.cell? ⟨w.heap.size, i, none⟩ = some v :=
  cell_keep hb (by simp) (new_cell w cs T i v h)

set_option maxRecDepth 20000 in
theorem name_any (b : Option Addr) (i : Int) (w : World) (h0 : 0 ≤ i) (h1 : i ≤ 10000000) :
    Calls Tryz.prog 54 #[.pointer b, .int .i64 i] w fun e w' =>
    e = .returned (.string (nameP i)) ∧ Below w.heap.size w w' := by
  have hsz := dtext_size i h1
  have htm : i.tmod 26 = i % 26 := Int.tmod_eq_emod_of_nonneg h0
  obtain ⟨x, hx⟩ : ∃ x, 97 + i % 26 = x := ⟨_, rfl⟩
  have hxb : 97 ≤ x ∧ x ≤ 122 := by omega
  have hw64 : IntKind.i64.wrap x = x := by rw [IntKind.wrap_i64]; omega
  have hw8 : IntKind.u8.wrap x = x := by rw [IntKind.wrap_u8]; omega
  have hcv : (convert 22 9 (.slice (some ⟨w.heap.size, 0, none⟩) 1 1)).run Tryz.prog (w.alloc (.cells #[.int .u8 x] 5)).drew = .ok (.string (ByteArray.empty.push (UInt8.ofNat x.toNat))) (w.alloc (.cells #[.int .u8 x] 5)).drew :=
    conv_at (new_cell w #[.int .u8 x] 5 0 _ rfl)
  have HN := hide (show nameP i = ByteArray.empty.push (UInt8.ofNat x.toNat) ++ dtext i by rw [← hx]; rfl)
  generalize hd : dtext i = D at *
  have HD := hide hd
  clear hd
  have hlim : (9223372036854775807 < (ByteArray.empty.push (UInt8.ofNat x.toNat)).size + D.size) = False := by rw [eq_iff_iff, iff_false, ByteArray.size_push]; simp; omega
  have hlim2 : (9223372036854775807 < 1 + D.size) = False := by rw [eq_iff_iff, iff_false]; omega
  go_enter Tryz.func54, Tryz.ntmps54
  go_wp2_with fail
  go_region_with (go_at_call 81; refine (l2decimal_any i _ h0 h1).mono ?_; rintro e w1 ⟨rfl, hb1⟩; rw [HD.out]; have hcv1 := conv1 w1 x; try (have hcv2 := conv_at (box_d hb1 0 _ rfl)))
  all_goals
    go_wp2_with fail
    go_ret
    refine ⟨by rw [HN.out]; rfl, ?_⟩
    first
      | exact ((((Below.refl w.heap.size w).alloc (Nat.le_refl _) _).drew).trans (hb1.mono (by simp)))
      | exact (((Below.refl w.heap.size w).drew).trans hb1).alloc hb1.size _
end Go.Proofs.YtijdigdcmjdooaaGreat

/- Drawn tracks: plain, and how one lies in memory while it is made. Own work. -/
namespace Go.Proofs.YtijdigdcmjdooaaGreat
open Go.RowKit
set_option maxHeartbeats 1000000

/-! ### Plain -/
def pcLen (code : List Int) (small : Int) (c : Cu) : Int := if small = 0 then 1 + pickV code 4 (wideC code c) else 1 + wideV code 300 c
def pcC2 (code : List Int) (small : Int) (c : Cu) : Cu := if small = 0 then pickC code 4 (wideC code c) else wideC code c
def pcDraw (code : List Int) (small : Int) (i : Nat) (c : Cu) : Pc := ⟨nameP i, pcLen code small c, 1 + pickV code 200 (pcC2 code small c), 1 + pickV code 90 (pickC code 200 (pcC2 code small c))⟩
def pcNext (code : List Int) (small : Int) (c : Cu) : Cu := pickC code 90 (pickC code 200 (pcC2 code small c))
def pcsTo (code : List Int) (small : Int) (c0 : Cu) : Nat → List Pc × Cu
  | 0 => ([], c0)
  | i + 1 => ((pcsTo code small c0 i).1 ++ [pcDraw code small i (pcsTo code small c0 i).2], pcNext code small (pcsTo code small c0 i).2)
def endsTo : Nat → List (Int × Int)
  | 0 => []
  | i + 1 => endsTo i ++ [((i : Int), 0), ((i : Int), 1)]
theorem endsTo_len (i : Nat) : (endsTo i).length = 2 * i := by
  induction i with
  | zero => rfl
  | succ i ih => simp [endsTo, ih]; omega
theorem pcsTo_len (code : List Int) (small : Int) (c0 : Cu) (i : Nat) : (pcsTo code small c0 i).1.length = i := by
  induction i with
  | zero => rfl
  | succ i ih => simp [pcsTo, ih]
theorem pcC2_at (code : List Int) (small : Int) (c : Cu) : (pcC2 code small c).at' ≤ c.at' + 4 := by
  unfold pcC2
  have := wideC_at code c
  have := pickC_at code 4 (wideC code c)
  split <;> omega
theorem pcNext_at (code : List Int) (small : Int) (c : Cu) : (pcNext code small c).at' ≤ c.at' + 8 := by
  unfold pcNext
  have := pcC2_at code small c
  have := pickC_at code 200 (pcC2 code small c)
  have := pickC_at code 90 (pickC code 200 (pcC2 code small c))
  omega
theorem pcsTo_at (code : List Int) (small : Int) (c0 : Cu) (i : Nat) : (pcsTo code small c0 i).2.at' ≤ c0.at' + 8 * i := by
  induction i with
  | zero => exact Nat.le_refl _
  | succ i ih =>
    have := pcNext_at code small (pcsTo code small c0 i).2
    simp only [pcsTo]
    omega
theorem pcLen_bd (code : List Int) (small : Int) (c : Cu) : 1 ≤ pcLen code small c ∧ pcLen code small c ≤ 300 := by
  unfold pcLen
  have := pickV_bd (code := code) (n := 4) (by omega) (wideC code c)
  have := wideV_bd (code := code) (n := 300) (by omega) c
  split <;> omega

/-! ### Rows -/
def pcCells (ps : List Pc) : List Value := ps.flatMap fun p => [.string p.name, .int .i64 p.len, .int .i64 p.speed, .int .i64 p.brake]
def endCells (es : List (Int × Int)) : List Value := es.flatMap fun e => [.int .i64 e.1, .int .i64 e.2]
theorem pcCells_add (ps : List Pc) (p : Pc) : pcCells (ps ++ [p]) = pcCells ps ++ [.string p.name, .int .i64 p.len, .int .i64 p.speed, .int .i64 p.brake] := by simp [pcCells]
theorem endCells_add (es : List (Int × Int)) (e f : Int × Int) : endCells (es ++ [e, f]) = endCells es ++ [.int .i64 e.1, .int .i64 e.2, .int .i64 f.1, .int .i64 f.2] := by simp [endCells]
theorem endCells_add1 (es : List (Int × Int)) (e : Int × Int) : endCells (es ++ [e]) = endCells es ++ [.int .i64 e.1, .int .i64 e.2] := by simp [endCells]

theorem Mid.setNew {B C : Nat} {w w2 : World} (h : Mid B C w w2) {b o : Nat} (hb : w.heap.size ≤ b) (u : Value) : Mid B C w (w2.setCell ⟨b, o, none⟩ u) :=
  ⟨h.os, h.tape, h.output, by simpa [World.setCell] using h.size, fun k hk hc => (Below.heap_setCell _ _ _ _ (by show k ≠ b; omega)).trans (h.block k hk hc)⟩
theorem Mid.grown {B C : Nat} {w w2 w3 : World} {row : Option Nat} (h : Mid B C w w2) (hg : w2.grownBy w3 row) (hrow : ∀ g, row = some g → w.heap.size ≤ g) : Mid B C w w3 :=
  ⟨hg.os.trans h.os, hg.tape.trans h.tape, hg.output.trans h.output, Nat.le_trans h.size hg.size, fun k hk hc => (hg.block k (Nat.lt_of_lt_of_le hk h.size) (fun e => by have := hrow k e.symm; omega)).trans (h.block k hk hc)⟩
theorem Mid.frozen {B C : Nat} {w w' : World} (h : Mid B C w w') {b o : Nat} {v : Value} (hb : b < B ∨ C ≤ b) (hc : w.cell? ⟨b, o, none⟩ = some v) (hf : w.frozen? ⟨b, o, none⟩ = false) : w'.frozen? ⟨b, o, none⟩ = false := by
  rw [World.frozen?_of_block (w := w) (w' := w') (a := ⟨b, o, none⟩) (h.block b (cell_lt hc) hb)]; exact hf
theorem owns_mid {B C : Nat} {w w' : World} {base : Nat} {e : TypeId} {size : Nat} {v : Value} {n : Nat} {xs : List Value} (h : w.ownsRow base e size v n xs) (hm : Mid B C w w') (hC : C ≤ base) : w'.ownsRow base e size v n xs := by
  refine ⟨h.1, ?_⟩
  rcases h.2 with h | ⟨g, cap, cur, hv, hbg, hg, rest⟩
  · exact .inl h
  · exact .inr ⟨g, cap, cur, hv, hbg, by rw [hm.block g (Array.getElem?_eq_some_iff.1 hg).1 (.inr (by omega))]; exact hg, rest⟩
/-- Rows of two kinds are two rows. -/
theorem owns_ne {w : World} {base base' : Nat} {e e' : TypeId} {size size' : Nat} {v v' : Value} {n n' : Nat} {xs xs' : List Value} (h : w.ownsRow base e size v n xs) (h' : w.ownsRow base' e' size' v' n' xs') (hne : e ≠ e') : v.ownBlock = none ∨ v.ownBlock ≠ v'.ownBlock := by
  rcases h.2 with ⟨rfl, _⟩ | ⟨g, cap, cur, rfl, _, hg, _⟩
  · exact .inl rfl
  · rcases h'.2 with ⟨rfl, _⟩ | ⟨g', cap', cur', rfl, _, hg', _⟩
    · exact .inr (by simp [Value.ownBlock])
    · refine .inr ?_
      intro he
      have : g = g' := by simpa [Value.ownBlock] using he
      subst this
      rw [hg] at hg'
      injection hg' with hg'
      injection hg' with _ h2 _
      exact hne h2
theorem owns_kept {w w' : World} {base base' : Nat} {e e' : TypeId} {size size' : Nat} {v v' : Value} {n n' : Nat} {xs xs' : List Value} (h : w.ownsRow base e size v n xs) (h' : w.ownsRow base' e' size' v' n' xs') (hne : e ≠ e') (hg : w.grownBy w' v'.ownBlock) : w'.ownsRow base e size v n xs := h.kept hg (owns_ne h h' hne)
theorem infos {P : Program} {T : TypeId} {z : Value} {s b : Nat} (h : (P.info? T).map (fun i => (i.zero, i.size, i.bytes)) = some (some z, s, b)) : ∃ i, P.info? T = some i ∧ i.zero = some z ∧ i.size = s ∧ i.bytes = b := by
  cases hh : P.info? T with
  | none => rw [hh] at h; simp at h
  | some i =>
    rw [hh] at h
    simp only [Option.map_some, Option.some.injEq, Prod.mk.injEq] at h
    exact ⟨i, rfl, h.1, h.2.1, h.2.2⟩

/-! ### While a track is made: the reader, the result's box, the track's box -/
structure NW (w wr : World) (b : Nat) (a : Option Addr) (code : List Int) (cap : Nat) (c : Cu) (pv jv : Value) : Prop where
  cur : CurAt wr b a code.length cap c
  bys : BytesAt wr a code
  r0 : wr.cell? ⟨w.heap.size, 0, none⟩ = some (.slice none 0 0)
  r1 : wr.cell? ⟨w.heap.size, 1, none⟩ = some (.slice none 0 0)
  rf0 : wr.frozen? ⟨w.heap.size, 0, none⟩ = false
  rf1 : wr.frozen? ⟨w.heap.size, 1, none⟩ = false
  n0 : wr.cell? ⟨w.heap.size + 1, 0, none⟩ = some pv
  n1 : wr.cell? ⟨w.heap.size + 1, 1, none⟩ = some jv
  nf0 : wr.frozen? ⟨w.heap.size + 1, 0, none⟩ = false
  nf1 : wr.frozen? ⟨w.heap.size + 1, 1, none⟩ = false
  mid : Mid b (b + 1) w wr
  bw : b < w.heap.size
  off : OffB a code.length b

section
variable {w wr : World} {b : Nat} {a : Option Addr} {code : List Int} {cap : Nat} {c : Cu} {pv jv : Value}
theorem NW.size (h : NW w wr b a code cap c pv jv) : w.heap.size + 2 ≤ wr.heap.size := cell_lt h.n0
theorem NW.later {w2 : World} (h : NW w wr b a code cap c pv jv) (hb : Below wr.heap.size wr w2) : NW w w2 b a code cap c pv jv where
  cur := h.cur.later hb
  bys := h.bys.later hb
  r0 := cell_later' hb h.r0
  r1 := cell_later' hb h.r1
  rf0 := frozen_later hb h.r0 h.rf0
  rf1 := frozen_later hb h.r1 h.rf1
  n0 := cell_later' hb h.n0
  n1 := cell_later' hb h.n1
  nf0 := frozen_later hb h.n0 h.nf0
  nf1 := frozen_later hb h.n1 h.nf1
  mid := h.mid.trans (Mid.of_below hb)
  bw := h.bw
  off := h.off
theorem NW.call {w2 : World} {c2 : Cu} (h : NW w wr b a code cap c pv jv) (hc : CurAt w2 b a code.length cap c2) (hm : Mid b (b + 1) wr w2) : NW w w2 b a code cap c2 pv jv := by
  have hb := h.bw
  exact { cur := hc
          bys := h.bys.mid hm h.off
          r0 := hm.cell (.inr (by omega)) h.r0
          r1 := hm.cell (.inr (by omega)) h.r1
          rf0 := hm.frozen (.inr (by omega)) h.r0 h.rf0
          rf1 := hm.frozen (.inr (by omega)) h.r1 h.rf1
          n0 := hm.cell (.inr (by omega)) h.n0
          n1 := hm.cell (.inr (by omega)) h.n1
          nf0 := hm.frozen (.inr (by omega)) h.n0 h.nf0
          nf1 := hm.frozen (.inr (by omega)) h.n1 h.nf1
          mid := h.mid.trans hm
          bw := h.bw
          off := h.off }
theorem NW.grown {w2 : World} {row : Option Nat} (h : NW w wr b a code cap c pv jv) (hg : wr.grownBy w2 row) (hrow : ∀ g, row = some g → w.heap.size + 2 ≤ g) : NW w w2 b a code cap c pv jv := by
  have hb := h.bw
  have hne : ∀ B, B < w.heap.size + 2 → some B ≠ row := fun B hB e => by have := hrow B e.symm; omega
  have hc : ∀ (B o : Nat) (v : Value), B < w.heap.size + 2 → wr.cell? ⟨B, o, none⟩ = some v → w2.cell? ⟨B, o, none⟩ = some v := fun B o v hB hv => hg.cell hv (hne B hB)
  have hf : ∀ (B o : Nat) (v : Value), B < w.heap.size + 2 → wr.cell? ⟨B, o, none⟩ = some v → wr.frozen? ⟨B, o, none⟩ = false → w2.frozen? ⟨B, o, none⟩ = false := fun B o v hB hv hz => by
    rw [hg.frozen_far ⟨B, o, none⟩ (cell_lt hv) (hne B hB)]; exact hz
  have hcur := h.cur
  exact { cur := ⟨hc _ _ _ (by omega) hcur.c0, hc _ _ _ (by omega) hcur.c1, hc _ _ _ (by omega) hcur.c2, hf _ _ _ (by omega) hcur.c1 hcur.f1, hf _ _ _ (by omega) hcur.c2 hcur.f2⟩
          bys := fun k hk => by
            obtain ⟨xb, xo, ha, hx⟩ := h.bys k hk
            have := h.off xb xo ha
            exact ⟨xb, xo, ha, hc _ _ _ (by omega) hx⟩
          r0 := hc _ _ _ (by omega) h.r0
          r1 := hc _ _ _ (by omega) h.r1
          rf0 := hf _ _ _ (by omega) h.r0 h.rf0
          rf1 := hf _ _ _ (by omega) h.r1 h.rf1
          n0 := hc _ _ _ (by omega) h.n0
          n1 := hc _ _ _ (by omega) h.n1
          nf0 := hf _ _ _ (by omega) h.n0 h.nf0
          nf1 := hf _ _ _ (by omega) h.n1 h.nf1
          mid := h.mid.grown hg (fun g e => by have := hrow g e; omega)
          bw := h.bw
          off := h.off }
theorem NW.set0 (h : NW w wr b a code cap c pv jv) (v : Value) : NW w (wr.setCell ⟨w.heap.size + 1, 0, none⟩ v) b a code cap c v jv := by
  have hb := h.bw
  have far : ∀ (B o : Nat) (u : Value), B ≠ w.heap.size + 1 → wr.cell? ⟨B, o, none⟩ = some u → (wr.setCell ⟨w.heap.size + 1, 0, none⟩ v).cell? ⟨B, o, none⟩ = some u := fun B o u hB hu => by
    rw [World.cell?_setCell_far wr ⟨w.heap.size + 1, 0, none⟩ ⟨B, o, none⟩ v (by show w.heap.size + 1 ≠ B; omega)]; exact hu
  have frz : ∀ (B o : Nat), wr.frozen? ⟨B, o, none⟩ = false → (wr.setCell ⟨w.heap.size + 1, 0, none⟩ v).frozen? ⟨B, o, none⟩ = false := fun B o hB => by simp [go_sem, hB]
  have hcur := h.cur
  exact { cur := ⟨far _ _ _ (by omega) hcur.c0, far _ _ _ (by omega) hcur.c1, far _ _ _ (by omega) hcur.c2, frz _ _ hcur.f1, frz _ _ hcur.f2⟩
          bys := fun k hk => by
            obtain ⟨xb, xo, ha, hx⟩ := h.bys k hk
            have := h.off xb xo ha
            exact ⟨xb, xo, ha, far _ _ _ (by omega) hx⟩
          r0 := far _ _ _ (by omega) h.r0
          r1 := far _ _ _ (by omega) h.r1
          rf0 := frz _ _ h.rf0
          rf1 := frz _ _ h.rf1
          n0 := by simp [go_sem, h.n0]
          n1 := by simp [go_sem, h.n1]
          nf0 := frz _ _ h.nf0
          nf1 := frz _ _ h.nf1
          mid := h.mid.setNew (by omega) v
          bw := h.bw
          off := h.off }
theorem NW.set1 (h : NW w wr b a code cap c pv jv) (v : Value) : NW w (wr.setCell ⟨w.heap.size + 1, 1, none⟩ v) b a code cap c pv v := by
  have hb := h.bw
  have far : ∀ (B o : Nat) (u : Value), B ≠ w.heap.size + 1 → wr.cell? ⟨B, o, none⟩ = some u → (wr.setCell ⟨w.heap.size + 1, 1, none⟩ v).cell? ⟨B, o, none⟩ = some u := fun B o u hB hu => by
    rw [World.cell?_setCell_far wr ⟨w.heap.size + 1, 1, none⟩ ⟨B, o, none⟩ v (by show w.heap.size + 1 ≠ B; omega)]; exact hu
  have frz : ∀ (B o : Nat), wr.frozen? ⟨B, o, none⟩ = false → (wr.setCell ⟨w.heap.size + 1, 1, none⟩ v).frozen? ⟨B, o, none⟩ = false := fun B o hB => by simp [go_sem, hB]
  have hcur := h.cur
  exact { cur := ⟨far _ _ _ (by omega) hcur.c0, far _ _ _ (by omega) hcur.c1, far _ _ _ (by omega) hcur.c2, frz _ _ hcur.f1, frz _ _ hcur.f2⟩
          bys := fun k hk => by
            obtain ⟨xb, xo, ha, hx⟩ := h.bys k hk
            have := h.off xb xo ha
            exact ⟨xb, xo, ha, far _ _ _ (by omega) hx⟩
          r0 := far _ _ _ (by omega) h.r0
          r1 := far _ _ _ (by omega) h.r1
          rf0 := frz _ _ h.rf0
          rf1 := frz _ _ h.rf1
          n0 := by simp [go_sem, h.n0]
          n1 := by simp [go_sem, h.n1]
          nf0 := frz _ _ h.nf0
          nf1 := frz _ _ h.nf1
          mid := h.mid.setNew (by omega) v
          bw := h.bw
          off := h.off }
/-- A store into a block that is none of these. -/
theorem NW.setOther (h : NW w wr b a code cap c pv jv) {B o : Nat} (hB : w.heap.size + 2 ≤ B) (v : Value) : NW w (wr.setCell ⟨B, o, none⟩ v) b a code cap c pv jv := by
  have hb := h.bw
  have far : ∀ (D i : Nat) (u : Value), D < w.heap.size + 2 → wr.cell? ⟨D, i, none⟩ = some u → (wr.setCell ⟨B, o, none⟩ v).cell? ⟨D, i, none⟩ = some u := fun D i u hD hu => by
    rw [World.cell?_setCell_far wr ⟨B, o, none⟩ ⟨D, i, none⟩ v (by show B ≠ D; omega)]; exact hu
  have frz : ∀ (D i : Nat), wr.frozen? ⟨D, i, none⟩ = false → (wr.setCell ⟨B, o, none⟩ v).frozen? ⟨D, i, none⟩ = false := fun D i hD => by simp [go_sem, hD]
  have hcur := h.cur
  exact { cur := ⟨far _ _ _ (by omega) hcur.c0, far _ _ _ (by omega) hcur.c1, far _ _ _ (by omega) hcur.c2, frz _ _ hcur.f1, frz _ _ hcur.f2⟩
          bys := fun k hk => by
            obtain ⟨xb, xo, ha, hx⟩ := h.bys k hk
            have := h.off xb xo ha
            exact ⟨xb, xo, ha, far _ _ _ (by omega) hx⟩
          r0 := far _ _ _ (by omega) h.r0
          r1 := far _ _ _ (by omega) h.r1
          rf0 := frz _ _ h.rf0
          rf1 := frz _ _ h.rf1
          n0 := far _ _ _ (by omega) h.n0
          n1 := far _ _ _ (by omega) h.n1
          nf0 := frz _ _ h.nf0
          nf1 := frz _ _ h.nf1
          mid := h.mid.setNew (by omega) v
          bw := h.bw
          off := h.off }
end
end Go.Proofs.YtijdigdcmjdooaaGreat

/- The library's strings, at what impl asks of them. Own work. -/
import Derived.Test.YtcodpnkfpmjleaaGreatDoorRiP
import Derived.Test.YtcodpnkfpmjleaaGreatDoorRnS
import Derived.Test.YtcodpnkfpmjleaaGreatDoorShI
import Derived.Laws.RangeAny
import Derived.Laws.Runes
import Derived.Scope
import Derived.Lib.OthersKept
import Derived.Deep.LoopGhost
import Derived.Shelf.Small.Utf8
import Derived.Shelf.Strings.Search3
namespace Go.Proofs.YtcodpnkfpmjleaaGreatDoor
open Go.RowKit
set_option maxHeartbeats 4000000
set_option maxRecDepth 100000

/-- A package variable that holds some number. -/
def MX (w : World) : Prop := ∃ m, w.cell? ⟨1, 0, none⟩ = some (.int .i64 m)
theorem MX.later {w w' : World} (h : MX w) (hb : Below w.heap.size w w') : MX w' := by
  obtain ⟨m, hm⟩ := h
  exact ⟨m, cell_later' hb hm⟩
theorem belowDrewN (w : World) (n : Nat) : Below w.heap.size w (w.drewN n) := ⟨rfl, rfl, rfl, Nat.le_refl _, fun _ _ => rfl⟩
theorem cut_any (l sep : Bl) (w : World) (hl : l.length ≤ 1048576) (hm : MX w) :
    Calls Tryz.prog 126 #[.string (sb l), .string (sb sep)] w fun e w' => e = .returned (.tuple #[.string (sb (Lib.cut l sep).1), .string (sb (Lib.cut l sep).2.1), .bool (Lib.cut l sep).2.2]) ∧ Below w.heap.size w w' := by
  obtain ⟨m, hm⟩ := hm
  refine (Any.strings_Cut Tryz.lays145 (sb l) (sb sep) m w (by rw [sb_size]; omega) hm).mono ?_
  rintro e w' ⟨rfl, n, rfl⟩
  exact ⟨rfl, belowDrewN w n⟩
theorem index_any (l : Bl) (w : World) :
    Calls Tryz.prog 124 #[.string (sb l), .string (sb [10])] w fun e w' => e = .returned (.int .i64 (Lib.index l [10])) ∧ Below w.heap.size w w' := by
  refine (Any.strings_Index_one Tryz.lays143 (sb l) 10 w).mono ?_
  rintro e w' ⟨rfl, hw⟩
  exact ⟨by rw [Lib.index_one]; rfl, by rw [hw]; exact Below.refl _ _⟩
theorem trim_any (l : Bl) (w : World) :
    Calls Tryz.prog 127 #[.string (sb l), .string (sb [32, 9])] w fun e w' => e = .returned (.string (sb (Lib.trimLeftS l [32, 9]))) ∧ Below w.heap.size w w' :=
  Any.strings_TrimLeft_laid Tryz.lays161 (by kernel_rfl) (sb l) (sb [32, 9]) w (by decide) (ascii_of_all (l := [32, 9]) (by decide))
theorem anyLong (l : Bl) (w : World) (hl : l.length ≤ 1048576) (h8 : 8 < l.length) :
    Calls Tryz.prog 128 #[.string (sb l), .string (sb [32, 9])] w fun e w' => e = .returned (.int .i64 (Lib.indexAny l [32, 9])) ∧ Below w.heap.size w w' := by
  have h116 : (Tryz.prog.info? 251).map (fun i => (i.zero, i.size)) = some (some (.agg (Array.replicate 256 (.bool false))), 256) := by kernel_rfl
  refine (Any.strings_IndexAny_long Tryz.lays153 (zero_of_info h116).1 (zero_of_info h116).2 (sb l) (sb [32, 9]) w (by decide) (by rw [sb_size]; exact h8) (by rw [sb_size]; omega) (by decide) (ascii_of_all (l := [32, 9]) (by decide))).mono ?_
  rintro e w' ⟨rfl, rfl⟩
  exact ⟨rfl, ((Below.refl _ _).alloc (Nat.le_refl _) _).alloc (by simp) _⟩
/-- A rune that is not ASCII is not found among the two blanks. -/
theorem idxRune_high (r : Int) (h1 : 128 ≤ r) (h2 : r ≤ 2147483647) (w : World) :
    Calls Tryz.prog 152 #[.string ⟨#[32, 9]⟩, .int .i32 r] w fun e w' => e = .returned (.int .i64 (-1)) ∧ Below w.heap.size w w' := by
  have g1 : decide (r < 128) = false := decide_eq_false (by omega)
  have g0 : decide (0 ≤ r) = true := decide_eq_true (by omega)
  by_cases he : r = 65533
  · subst he
    have n0 : ∀ ty, (Instr.next (.pointer (some ⟨w.heap.size, 0, none⟩)) true ty).run Tryz.prog (w.iter ⟨#[32, 9]⟩ 0) = .ok (.tuple #[.bool true, .int .i64 0, .int .i32 32]) (w.iter ⟨#[32, 9]⟩ 1) := fun ty => run_next_ascii (P := Tryz.prog) w ⟨#[32, 9]⟩ 0 ty (by decide) (by decide)
    have n1 : ∀ ty, (Instr.next (.pointer (some ⟨w.heap.size, 0, none⟩)) true ty).run Tryz.prog (w.iter ⟨#[32, 9]⟩ 1) = .ok (.tuple #[.bool true, .int .i64 1, .int .i32 9]) (w.iter ⟨#[32, 9]⟩ 2) := fun ty => run_next_ascii (P := Tryz.prog) w ⟨#[32, 9]⟩ 1 ty (by decide) (by decide)
    have n2 := fun ty => run_next_end (P := Tryz.prog) w ⟨#[32, 9]⟩ 2 ty (by decide)
    go_enter Tryz.func152, Tryz.ntmps152
    go_wp2_with fail
    refine wp_loop_rounds 3 ?_
    rw [rounds_succ]
    go_wp2_with fail
    rw [rounds_succ]
    go_wp2_with fail
    rw [rounds_succ]
    go_wp2_with fail
    go_ret
    exact ⟨rfl, (Below.refl _ _).alloc (Nat.le_refl _) _⟩
  · have ge : (r == 65533) = false := by rw [beq_eq_false_iff_ne]; exact he
    clear he
    cases hv : Lib.validRune r with
    | false =>
      have HV := hide hv
      clear hv
      go_enter Tryz.func152, Tryz.ntmps152
      go_wp2_with (go_at_call 171; refine (Any.utf8_ValidRune { Tryz.lays153 with } r _).mono ?_; rintro e w' ⟨rfl, hw⟩; rw [hw, HV.out])
      go_ret
      exact ⟨rfl, Below.refl _ _⟩
    | true =>
      have HV := hide hv
      have hval : Utf8.valid r = true := by
        unfold Lib.validRune at hv
        unfold Utf8.valid
        have := of_decide_eq_true hv
        simp
        omega
      obtain ⟨e2, e4, elast⟩ := encode_facts r hval h1
      have hcv : ∀ W : World, (convert 21 9 (.int .i32 r)).run Tryz.prog W = .ok (.string (Utf8.encode r)) W := fun W => by
        simp [convert, run_underlying Tryz.underlying21, run_underlying Tryz.underlying9, Conv.intToString]
      clear hv hval
      generalize Utf8.encode r = E at *
      by_cases h3 : 3 ≤ E.size
      · have g2 : decide ((E.size : Int) - 1 < 2) = false := decide_eq_false (by omega)
        clear elast
        go_enter Tryz.func152, Tryz.ntmps152
        go_wp2_with (go_at_call 171; refine (Any.utf8_ValidRune { Tryz.lays153 with } r _).mono ?_; rintro e w' ⟨rfl, hw⟩; rw [hw, HV.out])
        refine wp_scope_straight ?_
        go_wp2_with fail
        refine wp_loop_rounds 1 ?_
        rw [rounds_succ]
        go_wp2_with fail
        simp only [Exit.noGoto, Exit.inBlock]
        go_ret
        exact ⟨rfl, Below.refl _ _⟩
      · obtain ⟨x, y, rfl⟩ : ∃ x y, E = ⟨#[x, y]⟩ := by
          obtain ⟨d⟩ := E
          have hd : d.size = 2 := by have : d.size = (ByteArray.mk d).size := rfl; omega
          obtain ⟨l⟩ := d
          match l, hd with
          | [x, y], _ => exact ⟨x, y, rfl⟩
        have hy : 128 ≤ y.toNat := elast (show 1 < 2 by omega)
        clear elast e2 e4 h3
        have gy : ((((⟨#[32, 9]⟩ : ByteArray)[1]'(show 1 < 2 by omega)).toNat : Int) != (((⟨#[x, y]⟩ : ByteArray)[1]'(show 1 < 2 by omega)).toNat : Int)) = true := by
          rw [bne_iff_ne]
          show (9 : Int) ≠ (y.toNat : Int)
          omega
        have hwr : IntKind.i64.wrap 2 = 2 := by decide
        go_enter Tryz.func152, Tryz.ntmps152
        go_wp2_with (go_at_call 171; refine (Any.utf8_ValidRune { Tryz.lays153 with } r _).mono ?_; rintro e w' ⟨rfl, hw⟩; rw [hw, HV.out])
        refine wp_scope_straight ?_
        go_wp2_with fail
        refine wp_loop_rounds 1 ?_
        rw [rounds_succ]
        go_wp2_with fail
        refine wp_scope_straight ?_
        go_wp2_with fail
        go_region
        go_wp2_with fail
        go_region_law (first | (go_simp; go_at_call 170; refine (Any.strings_IndexByte { Tryz.lays153 with } _ _ _).mono ?_; rintro e w2 ⟨rfl, hw2⟩; subst hw2; rw [show Lib.indexByte ByteArray.empty.data.toList _ = -1 from rfl]))
        go_wp2_with fail
        simp only [Exit.noGoto, Exit.inBlock, Exit.then]
        go_ret
        exact ⟨rfl, (Below.refl _ _).drew.drew⟩
/-- The bytes behind the first of a rune are no ASCII. -/
theorem decode_on (s : ByteArray) (pos : Nat) (h : pos < s.size) (ha : 128 ≤ (s[pos]'h).toNat) : 1 ≤ (Utf8.decode s pos).2 ∧ pos + (Utf8.decode s pos).2 ≤ s.size ∧ ∀ j, j < (Utf8.decode s pos).2 → 128 ≤ (s.get! (pos + j)).toNat := by
  have hn : ¬ (s[pos]'h).toNat < 128 := by omega
  have h0 : 128 ≤ (s.get! (pos + 0)).toNat := by rw [get_at s pos h]; exact ha
  simp only [Utf8.decode, get_at s pos h, hn, if_false]
  have one : 1 ≤ 1 ∧ pos + 1 ≤ s.size ∧ ∀ j, j < 1 → 128 ≤ (s.get! (pos + j)).toNat := ⟨by omega, by omega, fun j hj => (show j = 0 by omega) ▸ h0⟩
  split
  · rename_i hc
    simp only [Bool.and_eq_true, decide_eq_true_eq, beq_iff_eq] at hc
    split
    · refine ⟨by omega, by omega, fun j hj => ?_⟩
      have : j = 0 ∨ j = 1 := by omega
      rcases this with rfl | rfl
      · exact h0
      · omega
    · exact one
  · split
    · rename_i hc
      simp only [Bool.and_eq_true, decide_eq_true_eq, beq_iff_eq] at hc
      split
      · refine ⟨by omega, by omega, fun j hj => ?_⟩
        have : j = 0 ∨ j = 1 ∨ j = 2 := by omega
        rcases this with rfl | rfl | rfl
        · exact h0
        · omega
        · omega
      · exact one
    · split
      · rename_i hc
        simp only [Bool.and_eq_true, decide_eq_true_eq, beq_iff_eq] at hc
        split
        · refine ⟨by omega, by omega, fun j hj => ?_⟩
          have : j = 0 ∨ j = 1 ∨ j = 2 ∨ j = 3 := by omega
          rcases this with rfl | rfl | rfl | rfl
          · exact h0
          · omega
          · omega
          · omega
        · exact one
      · exact one
theorem noAny_on {s : ByteArray} {i n : Nat} (h : Lib.NoAny s.data.toList [32, 9] i) (hi : i + n ≤ s.size) (hb : ∀ j, j < n → 128 ≤ (s.get! (i + j)).toNat) : Lib.NoAny s.data.toList [32, 9] (i + n) := fun j b hj hjb => by
  by_cases e : j < i
  · exact h j b e hjb
  · have hjs : j < s.size := by omega
    have h1 := hb (j - i) (by omega)
    rw [show i + (j - i) = j + 0 by omega, get_at s j hjs] at h1
    have h2 : s.data.toList[j]? = some (s[j]'hjs) := Lib.data_getElem? s j hjs
    rw [h2] at hjb
    obtain rfl := Option.some.inj hjb
    have h3 : ¬ (s[j]'hjs = 32) := fun e => by rw [e] at h1; revert h1; decide
    have h4 : ¬ (s[j]'hjs = 9) := fun e => by rw [e] at h1; revert h1; decide
    simp [h3, h4]
theorem anyShort (s : ByteArray) (w : World) (h8 : s.size ≤ 8) :
    Calls Tryz.prog 128 #[.string s, .string ⟨#[32, 9]⟩] w fun e w' => e = .returned (.int .i64 (Lib.indexAny s.data.toList [32, 9])) ∧ Below w.heap.size w w' := by
  have h8z : decide ((8 : Int) < (s.size : Int)) = false := decide_eq_false (by omega)
  go_enter Tryz.func128, Tryz.ntmps128
  go_wp2_with (go_at_call 153; refine (Any.strings_shouldUseASCIISet { Tryz.lays153 with } _ _).mono ?_; rintro e w' ⟨rfl, hw⟩; rw [hw, h8z])
  have HB0 := hide (show Below w.heap.size w (w.iter s 0) from (Below.refl _ _).alloc (Nat.le_refl _) _)
  have HI0 := hide (World.iter_heap w s 0)
  go_loopg [9, 10] s.size (fun g _ _ wx => ∃ i : Nat, i + g = s.size ∧ Hid (wx.heap[w.heap.size]? = some (.stringIter s i)) ∧ Hid (Below w.heap.size w wx) ∧ Hid (Lib.NoAny s.data.toList [32, 9] i))
  case atStart => exact ⟨0, by omega, HI0, HB0, Lib.NoAny.zero _ _⟩
  case round =>
    obtain ⟨i, hig, HI, HB, HN⟩ := hrel
    rename World => wr
    cases gk with
    | zero =>
      obtain rfl : i = s.size := by omega
      have hnx := fun ty => Lib.run_next_end_at (P := Tryz.prog) wr w.heap.size s s.size ty HI.out (by omega)
      have HR := hide (Lib.indexAny_none (s := s.data.toList) (chars := [32, 9]) (by rw [← Lib.size_eq]; exact HN.out))
      clear hig
      go_wp2_with fail
      go_ret
      exact ⟨by rw [HR.out]; rfl, HB.out⟩
    | succ g =>
      have hi : i < s.size := by omega
      have hnx := fun ty => Lib.run_next_any_at (P := Tryz.prog) wr w.heap.size s i ty HI.out hi
      have hbs := HB.out.size
      have hlI : w.heap.size < wr.heap.size := (Array.getElem?_eq_some_iff.1 HI.out).1
      have HG : Hid (∀ p, wr.grownBy (wr.iterAt w.heap.size s p) (some w.heap.size)) := fun p => ⟨rfl, rfl, rfl, by rw [Lib.iterAt_size]; exact Nat.le_refl _, fun k _ hk => Lib.iterAt_other _ _ _ _ _ (fun e => hk (by rw [e]))⟩
      have HB2 : Hid (∀ p, Below w.heap.size w (wr.iterAt w.heap.size s p)) := fun p => HB.out.grown (HG.out p) HB.out.size (fun k e => by have := Option.some.inj e; omega)
      have HI2 : Hid (∀ p, (wr.iterAt w.heap.size s p).heap[w.heap.size]? = some (.stringIter s p)) := fun p => Lib.iterAt_heap wr w.heap.size s i p HI.out
      by_cases h128 : (s[i]'hi).toNat < 128
      · obtain ⟨x, hx⟩ : ∃ x : UInt8, s[i]'hi = x := ⟨_, rfl⟩
        have Hx := hide (show s.data.toList[i]? = some x by rw [← hx]; exact Lib.data_getElem? s i hi)
        rw [decode_ascii s i hi h128, hx] at hnx
        rw [hx] at h128
        dsimp only at hnx
        have hcon := Lib.contains_iff_indexByte [32, 9] x
        have hback : ((x.toNat : Int)).toNat.toUInt8 = x := by simp
        have HI3 := hide (HI2.out (i + 1))
        have HB3 := hide (HB2.out (i + 1))
        clear hx
        generalize wr.iterAt w.heap.size s (i + 1) = w3 at *
        cases hin : ([32, 9] : List UInt8).contains x
        · rw [hin] at hcon
          have hlt : decide (Lib.indexByte [32, 9] x ≥ 0) = false := hcon.symm
          have HN2 := hide (HN.out.succ Hx.out hin)
          clear hcon hin
          go_wp2_with (go_at_call 152; refine (Any.strings_IndexRune_ascii { Tryz.lays153 with } ⟨#[32, 9]⟩ _ _ (by omega) (by omega)).mono ?_; rintro e w' ⟨rfl, hw'⟩; rw [hw', hback])
          go_roundg g
          case measure => omega
          case rel => exact ⟨i + 1, by omega, HI3, HB3, HN2⟩
        · rw [hin] at hcon
          have hge : decide (Lib.indexByte [32, 9] x ≥ 0) = true := hcon.symm
          have HR := hide (Lib.indexAny_hit HN.out Hx.out hin)
          clear hcon hin
          go_wp2_with (go_at_call 152; refine (Any.strings_IndexRune_ascii { Tryz.lays153 with } ⟨#[32, 9]⟩ _ _ (by omega) (by omega)).mono ?_; rintro e w' ⟨rfl, hw'⟩; rw [hw', hback])
          go_ret
          exact ⟨by rw [HR.out]; rfl, HB3.out⟩
      · obtain ⟨d1, d2, d3⟩ := decode_on s i hi (by omega)
        have dh := (decode_high s i hi (by omega)).1
        have dl := decode_le s i
        have HN2 := hide (noAny_on HN.out d2 d3)
        clear d3 h128
        generalize Utf8.decode s i = D at *
        obtain ⟨r, n⟩ := D
        dsimp only at d1 d2 dh dl hnx HN2
        have HI3 := hide (HI2.out (i + n))
        have HB3 := hide (HB2.out (i + n))
        have hl3 : w.heap.size < (wr.iterAt w.heap.size s (i + n)).heap.size := by rw [Lib.iterAt_size]; exact hlI
        clear HI2 HB2 HG
        generalize wr.iterAt w.heap.size s (i + n) = w3 at *
        go_wp2_with (go_at_call 152; refine (idxRune_high (r : Int) (by omega) (by omega) _).mono ?_; rintro e w4 ⟨rfl, hb4⟩)
        have HI4 := hide ((hb4.block w.heap.size hl3).trans HI3.out)
        have HB4 := hide (HB3.out.trans (hb4.mono HB3.out.size))
        go_roundg (s.size - (i + n))
        case measure => omega
        case rel => exact ⟨i + n, by omega, HI4, HB4, HN2⟩
theorem idxAny_any (l : Bl) (w : World) (hl : l.length ≤ 1048576) :
    Calls Tryz.prog 128 #[.string (sb l), .string (sb [32, 9])] w fun e w' => e = .returned (.int .i64 (Lib.indexAny l [32, 9])) ∧ Below w.heap.size w w' := by
  by_cases h8 : 8 < l.length
  · exact anyLong l w hl h8
  · exact anyShort (sb l) w (by rw [sb_size]; omega)
end Go.Proofs.YtcodpnkfpmjleaaGreatDoor

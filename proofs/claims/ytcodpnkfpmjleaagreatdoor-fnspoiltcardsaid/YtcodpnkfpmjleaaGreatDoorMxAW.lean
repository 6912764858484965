/- The library's strings, at what impl asks of them. Own work. -/
import Derived.Test.YtcodpnkfpmjleaaGreatDoorMxAU
import Derived.Test.YtcodpnkfpmjleaaGreatDoorRnS
import Derived.Test.YtcodpnkfpmjleaaGreatDoorMxAV
import Derived.Laws.RangeAny
import Derived.Laws.Runes
import Derived.Scope
import Derived.Lib.OthersKept
import Derived.Deep.LoopGhost
import Derived.Shelf.Small.Utf8
import Derived.Shelf.Strings.Search3
import Derived.Shelf.Strconv.Clone
import Derived.Shelf.LaysM
import Derived.Test.YtcodpnkfpmjleaaGreatDoorProg
namespace Go.Proofs.YtcodpnkfpmjleaaGreatDoor
open Go.RowKit
set_option maxHeartbeats 4000000
set_option maxRecDepth 100000

/-- A package variable that holds some number. -/
def MX (w : World) : Prop := ∃ m, w.cell? ⟨1, 0, none⟩ = some (.int .i64 m)
theorem MX.later {w w' : World} (h : MX w) (hb : Below w.heap.size w w') : MX w' := by
  obtain ⟨m, hm⟩ := h
  exact ⟨m, cell_later' hb hm⟩
theorem belowDrewN (w : World) (n : Nat) : Below w.heap.size w (w.drewN n) := ⟨rfl, rfl, rfl, Nat.le_refl _, fun _ _ => rfl⟩
theorem cut_any (l sep : Bl) (w : World) (hl : l.length ≤ 1048576) (hm : MX w) :
    Calls Tryz.prog 126 #[.string (sb l), .string (sb sep)] w fun e w' => e = .returned (.tuple #[.string (sb (Lib.cut l sep).1), .string (sb (Lib.cut l sep).2.1), .bool (Lib.cut l sep).2.2]) ∧ Below w.heap.size w w' := by
  obtain ⟨m, hm⟩ := hm
  refine (Any.strings_Cut Tryz.lays145 (sb l) (sb sep) m w (by rw [sb_size]; omega) hm).mono ?_
  rintro e w' ⟨rfl, n, rfl⟩
  exact ⟨rfl, belowDrewN w n⟩
theorem index_any (l : Bl) (w : World) :
    Calls Tryz.prog 124 #[.string (sb l), .string (sb [10])] w fun e w' => e = .returned (.int .i64 (Lib.index l [10])) ∧ Below w.heap.size w w' := by
  refine (Any.strings_Index_one Tryz.lays143 (sb l) 10 w).mono ?_
  rintro e w' ⟨rfl, hw⟩
  exact ⟨by rw [Lib.index_one]; rfl, by rw [hw]; exact Below.refl _ _⟩
theorem trim_any (l : Bl) (w : World) :
    Calls Tryz.prog 127 #[.string (sb l), .string (sb [32, 9])] w fun e w' => e = .returned (.string (sb (Lib.trimLeftS l [32, 9]))) ∧ Below w.heap.size w w' :=
  Any.strings_TrimLeft_laid Tryz.lays161 (by kernel_rfl) (sb l) (sb [32, 9]) w (by decide) (ascii_of_all (l := [32, 9]) (by decide))
theorem anyLong (l : Bl) (w : World) (hl : l.length ≤ 1048576) (h8 : 8 < l.length) :
    Calls Tryz.prog 128 #[.string (sb l), .string (sb [32, 9])] w fun e w' => e = .returned (.int .i64 (Lib.indexAny l [32, 9])) ∧ Below w.heap.size w w' := by
  have h116 : (Tryz.prog.info? 251).map (fun i => (i.zero, i.size)) = some (some (.agg (Array.replicate 256 (.bool false))), 256) := by kernel_rfl
  refine (Any.strings_IndexAny_long Tryz.lays153 (zero_of_info h116).1 (zero_of_info h116).2 (sb l) (sb [32, 9]) w (by decide) (by rw [sb_size]; exact h8) (by rw [sb_size]; omega) (by decide) (ascii_of_all (l := [32, 9]) (by decide))).mono ?_
  rintro e w' ⟨rfl, rfl⟩
  exact ⟨rfl, ((Below.refl _ _).alloc (Nat.le_refl _) _).alloc (by simp) _⟩
/-- A rune that is not ASCII is not found among the two blanks. -/
theorem idxRune_high (r : Int) (h1 : 128 ≤ r) (h2 : r ≤ 2147483647) (w : World) :
    Calls Tryz.prog 152 #[.string ⟨#[32, 9]⟩, .int .i32 r] w fun e w' => e = .returned (.int .i64 (-1)) ∧ Below w.heap.size w w' := by
  have g1 : decide (r < 128) = false := decide_eq_false (by omega)
  have g0 : decide (0 ≤ r) = true := decide_eq_true (by omega)
  by_cases he : r = 65533
  · subst he
    have n0 : ∀ ty, (Instr.next (.pointer (some ⟨w.heap.size, 0, none⟩)) true ty).run Tryz.prog (w.iter ⟨#[32, 9]⟩ 0) = .ok (.tuple #[.bool true, .int .i64 0, .int .i32 32]) (w.iter ⟨#[32, 9]⟩ 1) := fun ty => run_next_ascii (P := Tryz.prog) w ⟨#[32, 9]⟩ 0 ty (by decide) (by decide)
    have n1 : ∀ ty, (Instr.next (.pointer (some ⟨w.heap.size, 0, none⟩)) true ty).run Tryz.prog (w.iter ⟨#[32, 9]⟩ 1) = .ok (.tuple #[.bool true, .int .i64 1, .int .i32 9]) (w.iter ⟨#[32, 9]⟩ 2) := fun ty => run_next_ascii (P := Tryz.prog) w ⟨#[32, 9]⟩ 1 ty (by decide) (by decide)
    have n2 := fun ty => run_next_end (P := Tryz.prog) w ⟨#[32, 9]⟩ 2 ty (by decide)
    go_enter Tryz.func152, Tryz.ntmps152
    go_wp2_with fail
    refine wp_loop_rounds 3 ?_
    rw [rounds_succ]
    go_wp2_with fail
    rw [rounds_succ]
    go_wp2_with fail
    rw [rounds_succ]
    go_wp2_with fail
    go_ret
    exact ⟨rfl, (Below.refl _ _).alloc (Nat.le_refl _) _⟩
  · have ge : (r == 65533) = false := by rw [beq_eq_false_iff_ne]; exact he
    clear he
    cases hv : Lib.validRune r with
    | false =>
      have HV := hide hv
      clear hv
      go_enter Tryz.func152, Tryz.ntmps152
      go_wp2_with (go_at_call 171; refine (Any.utf8_ValidRune { Tryz.lays153 with } r _).mono ?_; rintro e w' ⟨rfl, hw⟩; rw [hw, HV.out])
      go_ret
      exact ⟨rfl, Below.refl _ _⟩
    | true =>
      have HV := hide hv
      have hval : Utf8.valid r = true := by
        unfold Lib.validRune at hv
        unfold Utf8.valid
        have := of_decide_eq_true hv
        simp
        omega
      obtain ⟨e2, e4, elast⟩ := encode_facts r hval h1
      have hcv : ∀ W : World, (convert 21 9 (.int .i32 r)).run Tryz.prog W = .ok (.string (Utf8.encode r)) W := fun W => by
        simp [convert, run_underlying Tryz.underlying21, run_underlying Tryz.underlying9, Conv.intToString]
      clear hv hval
      generalize Utf8.encode r = E at *
      by_cases h3 : 3 ≤ E.size
      · have g2 : decide ((E.size : Int) - 1 < 2) = false := decide_eq_false (by omega)
        clear elast
        go_enter Tryz.func152, Tryz.ntmps152
        go_wp2_with (go_at_call 171; refine (Any.utf8_ValidRune { Tryz.lays153 with } r _).mono ?_; rintro e w' ⟨rfl, hw⟩; rw [hw, HV.out])
        refine wp_scope_straight ?_
        go_wp2_with fail
        refine wp_loop_rounds 1 ?_
        rw [rounds_succ]
        go_wp2_with fail
        simp only [Exit.noGoto, Exit.inBlock]
        go_ret
        exact ⟨rfl, Below.refl _ _⟩
      · obtain ⟨x, y, rfl⟩ : ∃ x y, E = ⟨#[x, y]⟩ := by
          obtain ⟨d⟩ := E
          have hd : d.size = 2 := by have : d.size = (ByteArray.mk d).size := rfl; omega
          obtain ⟨l⟩ := d
          match l, hd with
          | [x, y], _ => exact ⟨x, y, rfl⟩
        have hy : 128 ≤ y.toNat := elast (show 1 < 2 by omega)
        clear elast e2 e4 h3
        have gy : ((((⟨#[32, 9]⟩ : ByteArray)[1]'(show 1 < 2 by omega)).toNat : Int) != (((⟨#[x, y]⟩ : ByteArray)[1]'(show 1 < 2 by omega)).toNat : Int)) = true := by
          rw [bne_iff_ne]
          show (9 : Int) ≠ (y.toNat : Int)
          omega
        have hwr : IntKind.i64.wrap 2 = 2 := by decide
        go_enter Tryz.func152, Tryz.ntmps152
        go_wp2_with (go_at_call 171; refine (Any.utf8_ValidRune { Tryz.lays153 with } r _).mono ?_; rintro e w' ⟨rfl, hw⟩; rw [hw, HV.out])
        refine wp_scope_straight ?_
        go_wp2_with fail
        refine wp_loop_rounds 1 ?_
        rw [rounds_succ]
        go_wp2_with fail
        refine wp_scope_straight ?_
        go_wp2_with fail
        go_region
        go_wp2_with fail
        go_region_law (first | (go_simp; go_at_call 170; refine (Any.strings_IndexByte { Tryz.lays153 with } _ _ _).mono ?_; rintro e w2 ⟨rfl, hw2⟩; subst hw2; rw [show Lib.indexByte ByteArray.empty.data.toList _ = -1 from rfl]))
        go_wp2_with fail
        simp only [Exit.noGoto, Exit.inBlock, Exit.then]
        go_ret
        exact ⟨rfl, (Below.refl _ _).drew.drew⟩
/-- The bytes behind the first of a rune are no ASCII. -/
theorem decode_on (s : ByteArray) (pos : Nat) (h : pos < s.size) (ha : 128 ≤ (s[pos]'h).toNat) : 1 ≤ (Utf8.decode s pos).2 ∧ pos + (Utf8.decode s pos).2 ≤ s.size ∧ ∀ j, j < (Utf8.decode s pos).2 → 128 ≤ (s.get! (pos + j)).toNat := by
  have hn : ¬ (s[pos]'h).toNat < 128 := by omega
  have h0 : 128 ≤ (s.get! (pos + 0)).toNat := by rw [get_at s pos h]; exact ha
  simp only [Utf8.decode, get_at s pos h, hn, if_false]
  have one : 1 ≤ 1 ∧ pos + 1 ≤ s.size ∧ ∀ j, j < 1 → 128 ≤ (s.get! (pos + j)).toNat := ⟨by omega, by omega, fun j hj => (show j = 0 by omega) ▸ h0⟩
  split
  · rename_i hc
    simp only [Bool.and_eq_true, decide_eq_true_eq, beq_iff_eq] at hc
    split
    · refine ⟨by omega, by omega, fun j hj => ?_⟩
      have : j = 0 ∨ j = 1 := by omega
      rcases this with rfl | rfl
      · exact h0
      · omega
    · exact one
  · split
    · rename_i hc
      simp only [Bool.and_eq_true, decide_eq_true_eq, beq_iff_eq] at hc
      split
      · refine ⟨by omega, by omega, fun j hj => ?_⟩
        have : j = 0 ∨ j = 1 ∨ j = 2 := by omega
        rcases this with rfl | rfl | rfl
        · exact h0
        · omega
        · omega
      · exact one
    · split
      · rename_i hc
        simp only [Bool.and_eq_true, decide_eq_true_eq, beq_iff_eq] at hc
        split
        · refine ⟨by omega, by omega, fun j hj => ?_⟩
          have : j = 0 ∨ j = 1 ∨ j = 2 ∨ j = 3 := by omega
          rcases this with rfl | rfl | rfl | rfl
          · exact h0
          · omega
          · omega
          · omega
        · exact one
      · exact one
theorem noAny_on {s : ByteArray} {i n : Nat} (h : Lib.NoAny s.data.toList [32, 9] i) (hi : i + n ≤ s.size) (hb : ∀ j, j < n → 128 ≤ (s.get! (i + j)).toNat) : Lib.NoAny s.data.toList [32, 9] (i + n) := fun j b hj hjb => by
  by_cases e : j < i
  · exact h j b e hjb
  · have hjs : j < s.size := by omega
    have h1 := hb (j - i) (by omega)
    rw [show i + (j - i) = j + 0 by omega, get_at s j hjs] at h1
    have h2 : s.data.toList[j]? = some (s[j]'hjs) := Lib.data_getElem? s j hjs
    rw [h2] at hjb
    obtain rfl := Option.some.inj hjb
    have h3 : ¬ (s[j]'hjs = 32) := fun e => by rw [e] at h1; revert h1; decide
    have h4 : ¬ (s[j]'hjs = 9) := fun e => by rw [e] at h1; revert h1; decide
    simp [h3, h4]
theorem anyShort (s : ByteArray) (w : World) (h8 : s.size ≤ 8) :
    Calls Tryz.prog 128 #[.string s, .string ⟨#[32, 9]⟩] w fun e w' => e = .returned (.int .i64 (Lib.indexAny s.data.toList [32, 9])) ∧ Below w.heap.size w w' := by
  have h8z : decide ((8 : Int) < (s.size : Int)) = false := decide_eq_false (by omega)
  go_enter Tryz.func128, Tryz.ntmps128
  go_wp2_with (go_at_call 153; refine (Any.strings_shouldUseASCIISet { Tryz.lays153 with } _ _).mono ?_; rintro e w' ⟨rfl, hw⟩; rw [hw, h8z])
  have HB0 := hide (show Below w.heap.size w (w.iter s 0) from (Below.refl _ _).alloc (Nat.le_refl _) _)
  have HI0 := hide (World.iter_heap w s 0)
  go_loopg [9, 10] s.size (fun g _ _ wx => ∃ i : Nat, i + g = s.size ∧ Hid (wx.heap[w.heap.size]? = some (.stringIter s i)) ∧ Hid (Below w.heap.size w wx) ∧ Hid (Lib.NoAny s.data.toList [32, 9] i))
  case atStart => exact ⟨0, by omega, HI0, HB0, Lib.NoAny.zero _ _⟩
  case round =>
    obtain ⟨i, hig, HI, HB, HN⟩ := hrel
    rename World => wr
    cases gk with
    | zero =>
      obtain rfl : i = s.size := by omega
      have hnx := fun ty => Lib.run_next_end_at (P := Tryz.prog) wr w.heap.size s s.size ty HI.out (by omega)
      have HR := hide (Lib.indexAny_none (s := s.data.toList) (chars := [32, 9]) (by rw [← Lib.size_eq]; exact HN.out))
      clear hig
      go_wp2_with fail
      go_ret
      exact ⟨by rw [HR.out]; rfl, HB.out⟩
    | succ g =>
      have hi : i < s.size := by omega
      have hnx := fun ty => Lib.run_next_any_at (P := Tryz.prog) wr w.heap.size s i ty HI.out hi
      have hbs := HB.out.size
      have hlI : w.heap.size < wr.heap.size := (Array.getElem?_eq_some_iff.1 HI.out).1
      have HG : Hid (∀ p, wr.grownBy (wr.iterAt w.heap.size s p) (some w.heap.size)) := fun p => ⟨rfl, rfl, rfl, by rw [Lib.iterAt_size]; exact Nat.le_refl _, fun k _ hk => Lib.iterAt_other _ _ _ _ _ (fun e => hk (by rw [e]))⟩
      have HB2 : Hid (∀ p, Below w.heap.size w (wr.iterAt w.heap.size s p)) := fun p => HB.out.grown (HG.out p) HB.out.size (fun k e => by have := Option.some.inj e; omega)
      have HI2 : Hid (∀ p, (wr.iterAt w.heap.size s p).heap[w.heap.size]? = some (.stringIter s p)) := fun p => Lib.iterAt_heap wr w.heap.size s i p HI.out
      by_cases h128 : (s[i]'hi).toNat < 128
      · obtain ⟨x, hx⟩ : ∃ x : UInt8, s[i]'hi = x := ⟨_, rfl⟩
        have Hx := hide (show s.data.toList[i]? = some x by rw [← hx]; exact Lib.data_getElem? s i hi)
        rw [decode_ascii s i hi h128, hx] at hnx
        rw [hx] at h128
        dsimp only at hnx
        have hcon := Lib.contains_iff_indexByte [32, 9] x
        have hback : ((x.toNat : Int)).toNat.toUInt8 = x := by simp
        have HI3 := hide (HI2.out (i + 1))
        have HB3 := hide (HB2.out (i + 1))
        clear hx
        generalize wr.iterAt w.heap.size s (i + 1) = w3 at *
        cases hin : ([32, 9] : List UInt8).contains x
        · rw [hin] at hcon
          have hlt : decide (Lib.indexByte [32, 9] x ≥ 0) = false := hcon.symm
          have HN2 := hide (HN.out.succ Hx.out hin)
          clear hcon hin
          go_wp2_with (go_at_call 152; refine (Any.strings_IndexRune_ascii { Tryz.lays153 with } ⟨#[32, 9]⟩ _ _ (by omega) (by omega)).mono ?_; rintro e w' ⟨rfl, hw'⟩; rw [hw', hback])
          go_roundg g
          case measure => omega
          case rel => exact ⟨i + 1, by omega, HI3, HB3, HN2⟩
        · rw [hin] at hcon
          have hge : decide (Lib.indexByte [32, 9] x ≥ 0) = true := hcon.symm
          have HR := hide (Lib.indexAny_hit HN.out Hx.out hin)
          clear hcon hin
          go_wp2_with (go_at_call 152; refine (Any.strings_IndexRune_ascii { Tryz.lays153 with } ⟨#[32, 9]⟩ _ _ (by omega) (by omega)).mono ?_; rintro e w' ⟨rfl, hw'⟩; rw [hw', hback])
          go_ret
          exact ⟨by rw [HR.out]; rfl, HB3.out⟩
      · obtain ⟨d1, d2, d3⟩ := decode_on s i hi (by omega)
        have dh := (decode_high s i hi (by omega)).1
        have dl := decode_le s i
        have HN2 := hide (noAny_on HN.out d2 d3)
        clear d3 h128
        generalize Utf8.decode s i = D at *
        obtain ⟨r, n⟩ := D
        dsimp only at d1 d2 dh dl hnx HN2
        have HI3 := hide (HI2.out (i + n))
        have HB3 := hide (HB2.out (i + n))
        have hl3 : w.heap.size < (wr.iterAt w.heap.size s (i + n)).heap.size := by rw [Lib.iterAt_size]; exact hlI
        clear HI2 HB2 HG
        generalize wr.iterAt w.heap.size s (i + n) = w3 at *
        go_wp2_with (go_at_call 152; refine (idxRune_high (r : Int) (by omega) (by omega) _).mono ?_; rintro e w4 ⟨rfl, hb4⟩)
        have HI4 := hide ((hb4.block w.heap.size hl3).trans HI3.out)
        have HB4 := hide (HB3.out.trans (hb4.mono HB3.out.size))
        go_roundg (s.size - (i + n))
        case measure => omega
        case rel => exact ⟨i + n, by omega, HI4, HB4, HN2⟩
theorem idxAny_any (l : Bl) (w : World) (hl : l.length ≤ 1048576) :
    Calls Tryz.prog 128 #[.string (sb l), .string (sb [32, 9])] w fun e w' => e = .returned (.int .i64 (Lib.indexAny l [32, 9])) ∧ Below w.heap.size w w' := by
  by_cases h8 : 8 < l.length
  · exact anyLong l w hl h8
  · exact anyShort (sb l) w (by rw [sb_size]; omega)
end Go.Proofs.YtcodpnkfpmjleaaGreatDoor

/- impl: the kind that a word names. Own work. -/
namespace Go.Proofs.YtcodpnkfpmjleaaGreatDoor
open Go.RowKit Go.Sort
set_option maxHeartbeats 4000000
set_option maxRecDepth 100000

theorem jointWord_at (k : Nat) (h : k = 1 ∨ k = 2 ∨ k = 3 ∨ k = 4) (w : World) :
    Calls Tryz.prog 60 #[.int .i64 k] w fun e w' => e = .returned (.string (sb (kindB k))) ∧ w = w' := by
  rcases h with rfl | rfl | rfl | rfl
  all_goals
    go_enter Tryz.func60, Tryz.ntmps60
    go_wp2_with fail
    go_ret
    exact ⟨rfl, rfl⟩
theorem kindW_at {l : Bl} {k : Nat} (h : k = 1 ∨ k = 2 ∨ k = 3 ∨ k = 4) (he : l = kindB k) : kindW l = k := by
  subst he
  rcases h with rfl | rfl | rfl | rfl <;> decide
theorem kindW_no {l : Bl} (h : ∀ k, 1 ≤ k → k ≤ 4 → ¬ l = kindB k) : kindW l = 0 := by
  unfold kindW
  rw [if_neg (h 1 (by omega) (by omega)), if_neg (h 2 (by omega) (by omega)), if_neg (h 3 (by omega) (by omega)), if_neg (h 4 (by omega) (by omega))]
theorem kind_any (br : Nat) (l : Bl) (line : Int) (w : World) (hc : w.cell? ⟨br, 0, none⟩ = some (.int .i64 line)) :
    Calls Tryz.prog 103 #[.pointer (some ⟨br, 0, none⟩), .string (sb l)] w fun e w' => ((kindW l ≠ 0 ∧ e = .returned (.int .i64 (kindW l : Nat))) ∨ (kindW l = 0 ∧ e = .panicked (leaveC 1 line))) ∧ w = w' := by
  have HC := hide hc
  have hl := cell_lt hc
  clear hc
  go_enter Tryz.func103, Tryz.ntmps103
  go_wp2_with fail
  go_loop [5] (fun q5 => ∃ k : Nat, 1 ≤ k ∧ k ≤ 5 ∧ q5 = .int .i64 k ∧ Hid (∀ j, 1 ≤ j → j < k → ¬ l = kindB j)) (fun q5 => 5 - (intOf q5).toNat)
  case atStart => exact ⟨1, by omega, by omega, rfl, (fun j h1 h2 => by omega)⟩
  case round =>
    obtain ⟨k, hk1, hk5, rfl, HNO⟩ := hrel
    by_cases hlt : k ≤ 4
    · have g4 : decide ((k : Int) ≤ 4) = true := decide_eq_true (by omega)
      have hkk : k = 1 ∨ k = 2 ∨ k = 3 ∨ k = 4 := by omega
      have hwk : IntKind.i64.wrap ((k : Int) + 1) = (k : Int) + 1 := by rw [IntKind.wrap_i64]; omega
      have HJW := hide (fun W => jointWord_at k hkk W)
      by_cases he : l = kindB k
      · have gL : ((sb (kindB k)).toList == (sb l).toList) = true := by rw [sb_toList, sb_toList, beq_iff_eq]; exact he.symm
        have HK := hide (kindW_at hkk he)
        clear he hkk
        go_wp2_with (go_at_call 60; refine (HJW.out _).mono ?_; rintro e w2 ⟨rfl, hw⟩; subst hw)
        go_ret
        exact ⟨.inl ⟨by rw [HK.out]; omega, by rw [HK.out]; rfl⟩, rfl⟩
      · have gL : ((sb (kindB k)).toList == (sb l).toList) = false := by rw [sb_toList, sb_toList, beq_eq_false_iff_ne]; exact fun h => he h.symm
        have HN2 : Hid (∀ j, 1 ≤ j → j < k + 1 → ¬ l = kindB j) := fun j h1 h2 => by
          by_cases e : j = k
          · subst e; exact he
          · exact HNO.out j h1 (by omega)
        clear he hkk
        go_wp2_with (go_at_call 60; refine (HJW.out _).mono ?_; rintro e w2 ⟨rfl, hw⟩; subst hw)
        go_roundw
        case rel => exact ⟨k + 1, by omega, by omega, by go_num, HN2⟩
        case measure => simp [intOf]; omega
    · obtain rfl : k = 5 := by omega
      have HK := hide (kindW_no (fun k h1 h2 => HNO.out k h1 (by omega)))
      clear hlt hk1 hk5
      go_wp2_with (go_at_call 63; refine (want_noR br 1 line _ HC.out).mono ?_; rintro e w2 ⟨rfl, hw⟩; subst hw)
      exact ⟨rfl, .inr ⟨HK.out, rfl⟩, rfl⟩
end Go.Proofs.YtcodpnkfpmjleaaGreatDoor

/- The library's contract of strings.Clone, laid at this dump in plain words. -/
namespace Go.Proofs
open Go.Shelf
def Tryz.shN_ren : Go.Shelf.Ren := ⟨fun | 316 => 172 | n => n, fun | 9 => 9 | 3 => 3 | 4 => 4 | 0 => 0 | 37 => 22 | 127 => 123 | 5 => 5 | n => n, fun | n => n⟩
theorem Tryz.shN316 : Go.Proofs.LaysM.n316 Tryz.prog Tryz.shN_ren := {
  mixed := by kernel_rfl
  f316 := Tryz.func172.trans (congrArg some (by kernel_rfl))
  t0 := Tryz.underlying0
  a0 := Tryz.isAgg0
  z0 := Tryz.sizeOf0
  v0 := Tryz.zeroValue0
  t3 := Tryz.underlying3
  a3 := Tryz.isAgg3
  z3 := Tryz.sizeOf3
  v3 := Tryz.zeroValue3
  t4 := Tryz.underlying4
  a4 := Tryz.isAgg4
  z4 := Tryz.sizeOf4
  v4 := Tryz.zeroValue4
  t5 := Tryz.underlying5
  a5 := Tryz.isAgg5
  z5 := Tryz.sizeOf5
  v5 := Tryz.zeroValue5
  t9 := Tryz.underlying9
  a9 := Tryz.isAgg9
  z9 := Tryz.sizeOf9
  v9 := Tryz.zeroValue9
  t37 := Tryz.underlying22
  a37 := Tryz.isAgg22
  z37 := Tryz.sizeOf22
  v37 := Tryz.zeroValue22
  t127 := Tryz.underlying123
  a127 := Tryz.isAgg123
  z127 := Tryz.sizeOf123
  v127 := Tryz.zeroValue123
  i0 := by kernel_rfl
  i3 := by kernel_rfl
  i4 := by kernel_rfl
  i5 := by kernel_rfl
  i9 := by kernel_rfl
  i37 := by kernel_rfl
  i127 := by kernel_rfl }
end Go.Proofs

/- impl: a name of a text. Own work. -/
namespace Go.Proofs.YtcodpnkfpmjleaaGreatDoor
open Go.RowKit Go.Sort
set_option maxHeartbeats 4000000
set_option maxRecDepth 100000

theorem clone_any (s : ByteArray) (w : World) (hs : s.size ≤ 1048576) :
    Calls Tryz.prog 155 #[.string s] w fun e w' => e = .returned (.string s) ∧ Below w.heap.size w w' := by
  go_enter Tryz.func155, Tryz.ntmps155
  go_wp2_with (go_at_call 172; refine (Any.stringslite_Clone Tryz.shN316 s _ (by omega)).mono ?_; rintro e w2 ⟨rfl, hb⟩)
  go_ret
  exact ⟨rfl, hb⟩
theorem readName_any (br : Nat) (s : ByteArray) (line : Int) (w : World) (hs : s.size ≤ 1048576) (hc : w.cell? ⟨br, 0, none⟩ = some (.int .i64 line)) :
    Calls Tryz.prog 129 #[.pointer (some ⟨br, 0, none⟩), .string s] w fun e w' => ((nm s = true ∧ e = .returned (.string s)) ∨ (nm s = false ∧ e = .panicked (leaveC 1 line))) ∧ Below w.heap.size w w' := by
  have HC := hide hc
  clear hc
  cases hn : nm s with
  | true =>
    have HN := hide hn
    clear hn
    go_enter Tryz.func129, Tryz.ntmps129
    go_wp2_with (first
      | (go_at_call 107; refine (nameOk_any s _ hs).mono ?_; rintro e w2 ⟨rfl, hw⟩; subst hw; rw [HN.out])
      | (go_at_call 63; refine (want_ok _ _ _).mono ?_; rintro e w2 ⟨⟨v2, rfl⟩, hw⟩; subst hw)
      | (go_at_call 155; refine (clone_any s _ hs).mono ?_; rintro e w2 ⟨rfl, hb⟩))
    go_ret
    exact ⟨.inl ⟨by first | trivial | rfl, rfl⟩, hb⟩
  | false =>
    have HN := hide hn
    clear hn
    go_enter Tryz.func129, Tryz.ntmps129
    go_wp2_with (first
      | (go_at_call 107; refine (nameOk_any s _ hs).mono ?_; rintro e w2 ⟨rfl, hw⟩; subst hw; rw [HN.out])
      | (go_at_call 63; refine (want_noR br 1 line _ HC.out).mono ?_; rintro e w2 ⟨rfl, hw⟩; subst hw))
    exact ⟨rfl, .inr ⟨by first | trivial | rfl, rfl⟩, Below.refl _ _⟩
end Go.Proofs.YtcodpnkfpmjleaaGreatDoor

/- impl: the ends of a line as they are spelt. Own work. -/
namespace Go.Proofs.YtcodpnkfpmjleaaGreatDoor
open Go.RowKit Go.Sort
set_option maxHeartbeats 4000000
set_option maxRecDepth 100000

theorem infoSpelt : (Tryz.prog.info? 258).map (fun i => (i.zero, i.size, i.bytes)) = some (some (.agg #[.string ⟨#[]⟩, .int .i64 0]), 2, 24) := by kernel_rfl
def slE (l : Bl) : Sl := ⟨sb (nameE l), sideV l⟩
theorem okE_false {l : Bl} (h : ¬ (sideE l = [48] ∨ sideE l = [49])) : okE l = false := by
  unfold okE
  rw [not_or] at h
  rw [decide_eq_false h.1, decide_eq_false h.2]
  rfl
theorem okE_nm {l : Bl} (h : nm (sb (nameE l)) = false) : okE l = false := by
  unfold okE
  rw [h, Bool.and_false]
theorem okE_yes {l : Bl} (h : sideE l = [48] ∨ sideE l = [49]) (hn : nm (sb (nameE l)) = true) : okE l = true := by
  unfold okE
  rw [hn]
  rcases h with h | h <;> simp [h]
theorem sideV_num {l : Bl} (h : sideE l = [48] ∨ sideE l = [49]) : numOk (sideE l) = true ∧ valD (sideE l) = sideV l := by
  unfold sideV
  rcases h with h | h <;> rw [h] <;> decide
theorem all_false {ws : List Bl} {x : Bl} (h : x ∈ ws) (hx : okE x = false) : ws.all okE = false := by
  rw [List.all_eq_false]
  exact ⟨x, h, by rw [hx]; simp⟩
theorem cutDot_any (l : Bl) (w : World) (hl : l.length ≤ 1048576) (hm : MX w) :
    Calls Tryz.prog 126 #[.string (sb l), .string ⟨#[46]⟩] w fun e w' => (∃ b : Bool, e = .returned (.tuple #[.string (sb (nameE l)), .string (sb (sideE l)), .bool b])) ∧ Below w.heap.size w w' :=
  (cut_any l [46] w hl hm).mono fun _ _ h => ⟨⟨_, h.1⟩, h.2⟩
theorem name_yes (br : Nat) {s : ByteArray} (line : Int) (w : World) (hs : s.size ≤ 1048576) (hc : w.cell? ⟨br, 0, none⟩ = some (.int .i64 line)) (hn : nm s = true) :
    Calls Tryz.prog 129 #[.pointer (some ⟨br, 0, none⟩), .string s] w fun e w' => e = .returned (.string s) ∧ Below w.heap.size w w' :=
  (readName_any br s line w hs hc).mono fun _ _ h => ⟨by rcases h.1 with h' | h'; exact h'.2; rw [hn] at h'; exact absurd h'.1 (by simp), h.2⟩
theorem name_no (br : Nat) {s : ByteArray} (line : Int) (w : World) (hs : s.size ≤ 1048576) (hc : w.cell? ⟨br, 0, none⟩ = some (.int .i64 line)) (hn : nm s = false) :
    Calls Tryz.prog 129 #[.pointer (some ⟨br, 0, none⟩), .string s] w fun e w' => e = .panicked (leaveC 1 line) ∧ Below w.heap.size w w' :=
  (readName_any br s line w hs hc).mono fun _ _ h => ⟨by rcases h.1 with h' | h'; rw [hn] at h'; exact absurd h'.1 (by simp); exact h'.2, h.2⟩
theorem num_yes (br : Nat) {l : Bl} (line : Int) (w : World) (hs : l.length ≤ 1048576) (hc : w.cell? ⟨br, 0, none⟩ = some (.int .i64 line)) (hn : numOk l = true) :
    Calls Tryz.prog 130 #[.pointer (some ⟨br, 0, none⟩), .string (sb l)] w fun e w' => e = .returned (.int .i64 (valD l)) ∧ w = w' :=
  (number_any br (sb l) line w (by rw [sb_size]; exact hs) hc).mono fun _ _ h => ⟨by rw [bs_sb] at h; rcases h.1 with h' | h'; exact h'.2; rw [hn] at h'; exact absurd h'.1 (by simp), h.2⟩
theorem num_no (br : Nat) {l : Bl} (line : Int) (w : World) (hs : l.length ≤ 1048576) (hc : w.cell? ⟨br, 0, none⟩ = some (.int .i64 line)) (hn : numOk l = false) :
    Calls Tryz.prog 130 #[.pointer (some ⟨br, 0, none⟩), .string (sb l)] w fun e w' => e = .panicked (leaveC 1 line) ∧ w = w' :=
  (number_any br (sb l) line w (by rw [sb_size]; exact hs) hc).mono fun _ _ h => ⟨by rw [bs_sb] at h; rcases h.1 with h' | h'; rw [hn] at h'; exact absurd h'.1 (by simp); exact h'.2, h.2⟩
theorem spell_any (br : Nat) (z : Option Addr) (cz : Nat) (ws : List Bl) (line : Int) (w : World) (hl : ws.length ≤ 1048576) (hs : ∀ x ∈ ws, x.length ≤ 1048576) (hM : MX w) (hc : w.cell? ⟨br, 0, none⟩ = some (.int .i64 line)) (hz : StrsAtR w z ws) :
    Calls Tryz.prog 132 #[.pointer (some ⟨br, 0, none⟩), .slice z ws.length cz] w fun e w' => ((ws.all okE = true ∧ ∃ v, e = .returned v ∧ w'.ownsRow w.heap.size 258 2 v ws.length (slCells (ws.map slE))) ∨ (ws.all okE = false ∧ e = .panicked (leaveC 1 line))) ∧ Below w.heap.size w w' := by
  obtain ⟨iE, hiE, hz0, hz1, hz2⟩ := info_parts infoSpelt
  have HI := hide hiE
  have H0 := hide hz0
  have H1 := hide hz1
  have H2 := hide hz2
  have HC := hide hc
  have HM := hide hM
  have HZ := hide hz
  have HS := hide hs
  have hlb := cell_lt hc
  clear hiE hz0 hz1 hz2 hc hM hz hs
  go_enter Tryz.func132, Tryz.ntmps132
  go_wp2_with fail
  go_loopw [5, 7, 8, 9, 10, 13] (fun q5 _ _ _ _ q13 wr => ∃ k : Nat, k ≤ ws.length ∧ q13 = .int .i64 k ∧ Hid (wr.ownsRow w.heap.size 258 2 q5 k (slCells ((ws.take k).map slE))) ∧ Hid (Below w.heap.size w wr) ∧ Hid ((ws.take k).all okE = true)) (fun _ _ _ _ _ q13 _ => ws.length - (intOf q13).toNat)
  case atStart => exact ⟨0, Nat.zero_le _, rfl, World.ownsRow_nil _ _ _ _, Below.refl _ _, (by show _ = _; simp)⟩
  case round =>
    obtain ⟨k, hk, rfl, HO, HB, HY⟩ := hrel
    rename World => wr
    by_cases hlt : k < ws.length
    · have hki : (k : Int) < (ws.length : Int) := by omega
      obtain ⟨g, o, rfl, z0⟩ := HZ.out k hlt
      obtain ⟨x, hx⟩ : ∃ x, ws[k] = x := ⟨_, rfl⟩
      rw [hx] at z0
      have HXM := hide (show x ∈ ws from hx ▸ List.getElem_mem hlt)
      have HXK := hide hx
      have hxl := HS.out x HXM.out
      have y0 := cell_later' HB.out z0
      have hly := cell_lt y0
      have HMr := hide (HM.out.later HB.out)
      have HCr := hide (cell_later' HB.out HC.out)
      have hBs := HB.out.size
      have hnl : (sb (nameE x)).size ≤ 1048576 := by rw [sb_size]; have := nameE_len x; omega
      have hsl : (sideE x).length ≤ 1048576 := by have := sideE_len x; omega
      clear z0 hx
      by_cases hsd : sideE x = [48] ∨ sideE x = [49]
      · have HSV := hide (sideV_num hsd)
        have hor : ((sb (sideE x)).toList == [48]) = true ∨ (((sb (sideE x)).toList == [48]) = false ∧ ((sb (sideE x)).toList == [49]) = true) := by
          rw [sb_toList]
          rcases hsd with h | h <;> rw [h] <;> simp
        cases hn : nm (sb (nameE x)) with
        | true =>
          have HN := hide hn
          have HOK := hide (okE_yes hsd hn)
          have HTK := hide (show ws.take (k + 1) = ws.take k ++ [x] by rw [List.take_succ_eq_append_getElem hlt, HXK.out])
          have HY2 : Hid ((ws.take (k + 1)).all okE = true) := by
            show _ = _
            rw [HTK.out, List.all_append, HY.out]
            simp [HOK.out]
          obtain ⟨zo, co, rfl⟩ : ∃ z c, u5 = .slice z k c := by
            rcases HO.out.2 with ⟨h, h0⟩ | ⟨g, cap, cur, h, _⟩
            · exact ⟨none, 0, by rw [h, h0]⟩
            · exact ⟨_, cap, h⟩
          have hml : k + 1 ≤ maxLen := by unfold maxLen; omega
          have HCE := hide (show slCells ((ws.take (k + 1)).map slE) = slCells ((ws.take k).map slE) ++ [.string (sb (nameE x)), .int .i64 (sideV x)] by rw [HTK.out, List.map_append]; simp [slCells, slE])
          clear hn hsd
          generalize (ws.take k).map slE = pre at *
          rcases hor with gA | ⟨gA, gB⟩
          all_goals
            go_wp2_with fail
            refine (cutDot_any x _ hxl HMr.out).mono ?_
            rintro e w2 ⟨⟨b2, rfl⟩, hb2⟩
            have HB2 := hide (HB.out.trans (hb2.mono HB.out.size))
            have HO2 := hide (owns_later' HO.out hb2)
            have HC2 := hide (cell_later' hb2 HCr.out)
            clear hb2 y0 hly
            go_wp2_with (first
              | (go_at_call 63; refine (want_ok _ _ _).mono ?_; rintro e w3 ⟨⟨v3, rfl⟩, hw⟩; subst hw))
            refine (name_yes br line _ hnl HC2.out HN.out).mono ?_
            rintro e w4 ⟨rfl, hb4⟩
            have HB4 := hide (HB2.out.trans (hb4.mono HB2.out.size))
            have HO4 := hide (owns_later' HO2.out hb4)
            have HC4 := hide (cell_later' hb4 HC2.out)
            have hB4s := HB4.out.size
            clear hb4
            go_wp2_with (first
              | (go_at_call 130; refine (num_yes br line _ hsl HC4.out HSV.out.1).mono ?_; rintro e w5 ⟨rfl, hw⟩; subst hw; rw [HSV.out.2])
              | (at_builtin; (refine wpList_append_lies _ rfl _ _ _ rfl w.heap.size 258 iE _ 2 24 Tryz.underlying233 HI.out H0.out H1.out H2.out rfl (by omega) _ k (slCells pre) rfl (HO4.out.alloc _) ⟨_, 0, none⟩ 1 1 [.string (sb (nameE x)), .int .i64 (sideV x)] rfl rfl (newsAt rfl) (by simp [Value.oneCell']) (by omega) hml (by omega) (by simp; omega) _ rfl ?_); intro g2 cp2 w7 hown2 hgrow2 hgg _; have HO7 := hide hown2; have HG7 := hide hgrow2))
            all_goals
              have HBN := hide ((HB4.out.alloc HB4.out.size (.cells #[.string (sb (nameE x)), .int .i64 (sideV x)] 258)).grown HG7.out (by have := HB4.out.size; simp; omega) (fun k e => (HO4.out.lt k e).1))
              have HON : Hid (w7.ownsRow w.heap.size 258 2 (.slice (some ⟨g2, 0, none⟩) (k + 1) cp2) (k + 1) (slCells ((ws.take (k + 1)).map slE))) := by
                show World.ownsRow _ _ _ _ _ _ _
                rw [HCE.out]
                exact HO7.out
              go_wp2_with fail
              go_roundw
              case rel => exact ⟨k + 1, by omega, by go_num, HON, HBN, HY2⟩
              case measure => simp [intOf]; omega
        | false =>
          have HN := hide hn
          have HR := hide (all_false HXM.out (okE_nm hn))
          clear hn hsd
          rcases hor with gA | ⟨gA, gB⟩
          all_goals
            go_wp2_with fail
            refine (cutDot_any x _ hxl HMr.out).mono ?_
            rintro e w2 ⟨⟨b2, rfl⟩, hb2⟩
            have HB2 := hide (HB.out.trans (hb2.mono HB.out.size))
            have HC2 := hide (cell_later' hb2 HCr.out)
            clear hb2 y0 hly
            go_wp2_with (first
              | (go_at_call 63; refine (want_ok _ _ _).mono ?_; rintro e w3 ⟨⟨v3, rfl⟩, hw⟩; subst hw))
            refine (name_no br line _ hnl HC2.out HN.out).mono ?_
            rintro e w4 ⟨rfl, hb4⟩
            exact ⟨rfl, .inr ⟨HR.out, rfl⟩, HB2.out.trans (hb4.mono HB2.out.size)⟩
      · have HR := hide (all_false HXM.out (okE_false hsd))
        have gA : ((sb (sideE x)).toList == [48]) = false := by rw [sb_toList, beq_eq_false_iff_ne]; exact fun h => hsd (.inl h)
        have gB : ((sb (sideE x)).toList == [49]) = false := by rw [sb_toList, beq_eq_false_iff_ne]; exact fun h => hsd (.inr h)
        clear hsd
        go_wp2_with fail
        refine (cutDot_any x _ hxl HMr.out).mono ?_
        rintro e w2 ⟨⟨b2, rfl⟩, hb2⟩
        have HB2 := hide (HB.out.trans (hb2.mono HB.out.size))
        have HC2 := hide (cell_later' hb2 HCr.out)
        clear hb2 y0 hly
        go_wp2_with (first
          | (go_at_call 63; refine (want_noR br 1 line _ HC2.out).mono ?_; rintro e w3 ⟨rfl, hw⟩; subst hw))
        exact ⟨rfl, .inr ⟨HR.out, rfl⟩, HB2.out⟩
    · obtain rfl : k = ws.length := by omega
      have hO' := HO.out
      have hY' := HY.out
      rw [List.take_length] at hO' hY'
      have HO' := hide hO'
      have HY' := hide hY'
      clear hO' hY' hlt hk
      go_wp2_with fail
      go_ret
      exact ⟨.inl ⟨HY'.out, _, rfl, HO'.out⟩, HB.out⟩
end Go.Proofs.YtcodpnkfpmjleaaGreatDoor

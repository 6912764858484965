/- Marks put into rows that a call has made, and found again. Own work. -/
import Derived.Test.YtjagfeihmnagkaaGreatDoorMxAB
import Derived.Test.YtjagfeihmnagkaaGreatDoorRiE
import Derived.Deep.RegionWith
namespace Go.Proofs.YtjagfeihmnagkaaGreatDoor
open Go.RowKit
set_option maxHeartbeats 1000000

theorem markEndS_row (b n m cap : Nat) (k : Int) (w : World) (hn : n ≤ 1048576) (hnm : n * 2 ≤ m) (h0 : 0 ≤ k) (h1 : k ≤ 1125899906842624) (hr : Row w b 60 m) :
    Calls Tryz.prog 54 #[.slice (some ⟨b, 0, none⟩) n cap, .int .i64 k] w fun e w' =>
    e = .returned (.int .i64 (k + 2 * n)) ∧ On (· = b) w w' ∧ Row w' b 60 m ∧ Marked w' (some ⟨b, 0, none⟩) n k := by
  have HR := hide hr
  clear hr
  go_enter Tryz.func54, Tryz.ntmps54
  go_wp2
  go_loopw [1, 5] (fun q i wr => ∃ (t : Nat) (f : Nat → Value), t ≤ n ∧ i = .int .i64 t ∧ q = .int .i64 (k + 2 * t) ∧ Hid (wr.rowIs b 60 m f) ∧ Hid (∀ j, j < t → f (j * 2) = .int .i64 (k + 2 * j) ∧ f (j * 2 + 1) = .int .i64 (k + 2 * j + 1)) ∧ Hid (On (· = b) w wr)) (fun _ i _ => n - (intOf i).toNat)
  case atStart =>
    obtain ⟨f, hf⟩ := HR.out
    exact ⟨0, f, Nat.zero_le _, rfl, by simp, hf, (fun j hj => by omega), On.refl _ _⟩
  case round =>
    obtain ⟨t, f, ht, rfl, rfl, hf, hfs, hm⟩ := hrel
    by_cases hlt : t < n
    · have d0 := hf.out.cell (i := t * 2) (by omega)
      have d1 := hf.out.cell (i := t * 2 + 1) (by omega)
      have z0 := hf.out.frozen (t * 2)
      have z1 := hf.out.frozen (t * 2 + 1)
      go_wp2
      go_roundw
      case rel =>
        refine ⟨t + 1, _, by omega, by go_num, ?_, (hf.out.set _ _).set _ _, ?_, hide ((hm.out.trans (On.set _ (S := (· = b)) rfl _)).trans (On.set _ (S := (· = b)) rfl _))⟩
        · congr 1; omega
        · intro j hj
          by_cases e : j = t
          · subst e
            constructor
            · rw [if_neg (by omega), if_pos rfl]
            · rw [if_pos rfl]
          · have := hfs.out j (by omega)
            constructor
            · rw [if_neg (by omega), if_neg (by omega)]; exact this.1
            · rw [if_neg (by omega), if_neg (by omega)]; exact this.2
      case measure => simp [intOf]; omega
    · obtain rfl : t = n := by omega
      go_wp2
      go_ret
      refine ⟨rfl, hm.out, ⟨f, hf.out⟩, ?_⟩
      intro i hi
      have := hfs.out i hi
      exact ⟨b, rfl, by rw [hf.out.cell (by omega), this.1], by rw [hf.out.cell (by omega), this.2]⟩
/-- A row of pieces marked. -/
def MkP (w : World) (a : Option Addr) (n : Nat) (k : Int) : Prop := ∀ i, i < n → ∃ b, a = some ⟨b, 0, none⟩ ∧ w.cell? ⟨b, i * 4, none⟩ = some (.string (mtext (k + 4 * i))) ∧ w.cell? ⟨b, i * 4 + 1, none⟩ = some (.int .i64 (k + 4 * i + 1)) ∧ w.cell? ⟨b, i * 4 + 2, none⟩ = some (.int .i64 (k + 4 * i + 2)) ∧ w.cell? ⟨b, i * 4 + 3, none⟩ = some (.int .i64 (k + 4 * i + 3))
theorem markPieceS_row (b n m cap : Nat) (k : Int) (w : World) (hn : n ≤ 1048576) (hnm : n * 4 ≤ m) (h0 : 0 ≤ k) (h1 : k ≤ 1125899906842624) (hr : Row w b 55 m) :
    Calls Tryz.prog 37 #[.slice (some ⟨b, 0, none⟩) n cap, .int .i64 k] w fun e w' =>
    e = .returned (.int .i64 (k + 4 * n)) ∧ On (· = b) w w' ∧ MkP w' (some ⟨b, 0, none⟩) n k := by
  have HR := hide hr
  clear hr
  go_enter Tryz.func37, Tryz.ntmps37
  go_wp2_with fail
  go_loopw [1, 5] (fun q i wr => ∃ (t : Nat) (f : Nat → Value), t ≤ n ∧ i = .int .i64 t ∧ q = .int .i64 (k + 4 * t) ∧ Hid (wr.rowIs b 55 m f) ∧ Hid (∀ j, j < t → f (j * 4) = .string (mtext (k + 4 * j)) ∧ f (j * 4 + 1) = .int .i64 (k + 4 * j + 1) ∧ f (j * 4 + 2) = .int .i64 (k + 4 * j + 2) ∧ f (j * 4 + 3) = .int .i64 (k + 4 * j + 3)) ∧ Hid (On (· = b) w wr)) (fun _ i _ => n - (intOf i).toNat)
  case atStart =>
    obtain ⟨f, hf⟩ := HR.out
    exact ⟨0, f, Nat.zero_le _, rfl, by simp, hf, (fun j hj => by omega), On.refl _ _⟩
  case round =>
    obtain ⟨t, f, ht, rfl, rfl, hrow, hfs, hm⟩ := hrel
    by_cases hlt : t < n
    · go_wp2_with fail
      refine (markText_any _ _ (by omega) (by omega)).mono ?_
      rintro e w1 ⟨rfl, hb1⟩
      have hf : w1.rowIs b 55 m f := hrow.out.of_block (hb1.block b hrow.out.lt)
      have HM1 := hide (hm.out.trans (On.of_below hb1))
      have d0 := hf.cell (i := t * 4) (by omega)
      have d1 := hf.cell (i := t * 4 + 1) (by omega)
      have d2 := hf.cell (i := t * 4 + 2) (by omega)
      have d3 := hf.cell (i := t * 4 + 3) (by omega)
      have z0 := hf.frozen (t * 4)
      have z1 := hf.frozen (t * 4 + 1)
      have z2 := hf.frozen (t * 4 + 2)
      have z3 := hf.frozen (t * 4 + 3)
      have HF := hide hf
      clear hf hb1
      go_wp2_with fail
      go_roundw
      case rel =>
        refine ⟨t + 1, _, by omega, by go_num, ?_, (((HF.out.set _ _).set _ _).set _ _).set _ _, ?_, hide ((((HM1.out.trans (On.set _ (S := (· = b)) rfl _)).trans (On.set _ (S := (· = b)) rfl _)).trans (On.set _ (S := (· = b)) rfl _)).trans (On.set _ (S := (· = b)) rfl _))⟩
        · congr 1; omega
        · intro j hj
          by_cases e : j = t
          · subst e
            refine ⟨?_, ?_, ?_, ?_⟩
            · rw [if_neg (by omega), if_neg (by omega), if_neg (by omega), if_pos rfl]
            · rw [if_neg (by omega), if_neg (by omega), if_pos rfl]
            · rw [if_neg (by omega), if_pos rfl]; congr 1; omega
            · rw [if_pos rfl]; congr 1; omega
          · have := hfs.out j (by omega)
            refine ⟨?_, ?_, ?_, ?_⟩
            · rw [if_neg (by omega), if_neg (by omega), if_neg (by omega), if_neg (by omega)]; exact this.1
            · rw [if_neg (by omega), if_neg (by omega), if_neg (by omega), if_neg (by omega)]; exact this.2.1
            · rw [if_neg (by omega), if_neg (by omega), if_neg (by omega), if_neg (by omega)]; exact this.2.2.1
            · rw [if_neg (by omega), if_neg (by omega), if_neg (by omega), if_neg (by omega)]; exact this.2.2.2
      case measure => simp [intOf]; omega
    · obtain rfl : t = n := by omega
      go_wp2_with fail
      go_ret
      refine ⟨rfl, hm.out, ?_⟩
      intro i hi
      have := hfs.out i hi
      exact ⟨b, rfl, by rw [hrow.out.cell (by omega), this.1], by rw [hrow.out.cell (by omega), this.2.1], by rw [hrow.out.cell (by omega), this.2.2.1], by rw [hrow.out.cell (by omega), this.2.2.2]⟩
theorem markPieceS_none (a : Option Addr) (cap : Nat) (k : Int) (w : World) :
    Calls Tryz.prog 37 #[.slice a 0 cap, .int .i64 k] w fun e w' => e = .returned (.int .i64 k) ∧ w = w' := by
  go_enter Tryz.func37, Tryz.ntmps37
  go_wp2
  go_loop [1, 5] (fun q i => q = .int .i64 k ∧ i = .int .i64 0) (fun _ i => 0)
  case atStart => exact ⟨rfl, rfl⟩
  case round =>
    obtain ⟨rfl, rfl⟩ := hrel
    go_wp2
    go_ret
    exact ⟨rfl, rfl⟩
theorem markJointS_none (a : Option Addr) (cap : Nat) (k : Int) (w : World) :
    Calls Tryz.prog 38 #[.slice a 0 cap, .int .i64 k] w fun e w' => e = .returned (.int .i64 k) ∧ w = w' := by
  go_enter Tryz.func38, Tryz.ntmps38
  go_wp2
  go_loop [1, 5] (fun q i => q = .int .i64 k ∧ i = .int .i64 0) (fun _ i => 0)
  case atStart => exact ⟨rfl, rfl⟩
  case round =>
    obtain ⟨rfl, rfl⟩ := hrel
    go_wp2
    go_ret
    exact ⟨rfl, rfl⟩
theorem heldPieceS_any (a : Option Addr) (n cap : Nat) (k : Int) (w : World) (hn : n ≤ 1048576) (h0 : 0 ≤ k) (h1 : k ≤ 1125899906842624) (hm : MkP w a n k) :
    Calls Tryz.prog 39 #[.slice a n cap, .int .i64 k] w fun e w' => e = .returned (.int .i64 (k + 4 * n)) ∧ Below w.heap.size w w' := by
  have HM := hide hm
  clear hm
  go_enter Tryz.func39, Tryz.ntmps39
  go_wp2_with fail
  go_loopw [1, 5] (fun q i wr => ∃ (t : Nat), t ≤ n ∧ i = .int .i64 t ∧ q = .int .i64 (k + 4 * t) ∧ Hid (Below w.heap.size w wr)) (fun _ i _ => n - (intOf i).toNat)
  case atStart => exact ⟨0, Nat.zero_le _, rfl, by simp, Below.refl _ _⟩
  case round =>
    obtain ⟨t, ht, rfl, rfl, HB⟩ := hrel
    by_cases hlt : t < n
    · obtain ⟨b, rfl, d0, d1, d2, d3⟩ := HM.out t hlt
      have d0 := cell_later' HB.out d0
      have d1 := cell_later' HB.out d1
      have d2 := cell_later' HB.out d2
      have d3 := cell_later' HB.out d3
      have hld := cell_lt d0
      go_wp2_with fail
      have h66 : Below _ _ (wr.drew) := (Below.refl wr.heap.size wr).drew
      go_region_with (first
        | (go_at_call 53; refine (markText_any _ _ ?_ ?_).mono ?_; omega; omega; rintro e w1 ⟨rfl, hb1⟩; have hb2 := h66.trans hb1; have d0' := cell_later' hb2 d0; have hld' := cell_lt d0'))
      all_goals
        have d1 := cell_later' hb2 d1
        have d2 := cell_later' hb2 d2
        have d3 := cell_later' hb2 d3
        have hld := cell_lt d1
        have HB2 := hide (HB.out.trans (hb2.mono HB.out.size))
        clear hb1 hb2 h66
        go_wp2_with fail
        go_roundw
        case rel => exact ⟨t + 1, by omega, by go_num, by congr 1; omega, HB2⟩
        case measure => simp [intOf]; omega
    · obtain rfl : t = n := by omega
      go_wp2_with fail
      go_ret
      exact ⟨rfl, HB.out⟩
end Go.Proofs.YtjagfeihmnagkaaGreatDoor

/- The laws' own helpers on lists of steps and of lies (written by gen_lhs.py out of those on ends). Own work. -/
import Derived.Test.YtplnppdlabpodaaTo
import Derived.Test.YtplnppdlabpodaaMkB
import Derived.Deep.RegionWith
import Derived.Deep.RegionHeld3
namespace Go.Proofs.Ytplnppdlabpodaa
open Go.RowKit
set_option maxHeartbeats 1000000

theorem info_Step : (Try.prog.info? 125).map (fun i => (i.zero, i.size, i.bytes)) = some (some (.agg #[.int .i64 0, .int .i64 0]), 2, 16) := by kernel_rfl

theorem info_Lie : (Try.prog.info? 132).map (fun i => (i.zero, i.size, i.bytes)) = some (some (.agg #[.int .i64 0, .int .i64 0]), 2, 16) := by kernel_rfl

theorem toStep_any (p s : Int) (w : World) :
    Calls Try.prog 99 #[.agg #[.int .i64 p, .int .i64 s]] w fun e w' =>
    e = .returned (.agg #[.int .i64 p, .int .i64 s]) ∧ Below w.heap.size w w' := by
  go_enter Try.func99, Try.ntmps99
  go_wp2
  exact bodyPost_ret (v := .agg #[.int .i64 p, .int .i64 s]) (by simp [results, Try.results99, go_sem]) rfl ⟨rfl, (((Below.refl _ _).alloc (Nat.le_refl _) _).alloc (by simp) _).alloc (by simp; omega) _⟩

theorem toStepS_any (a : Option Addr) (es : List (Int × Int)) (cap : Nat) (w : World) (hn : es.length ≤ 1048576) (hp : EndsAt w a es) :
    Calls Try.prog 56 #[.slice a es.length cap] w fun e w' =>
    e = .returned (.slice (some ⟨w.heap.size, 0, none⟩) es.length es.length) ∧ Row w' w.heap.size 125 (es.length * 2) ∧ EndsAt w' (some ⟨w.heap.size, 0, none⟩) es ∧ Below w.heap.size w w' := by
  have HP := hide hp
  clear hp
  have hmk := run_make_rows (P := Try.prog) 80 125 _ _ _ Try.underlying80 info_Step es.length (by omega) (by omega)
  go_enter Try.func56, Try.ntmps56
  go_wp2
  go_loopw [4] (fun i wr => ∃ (k : Nat) (f : Nat → Value), k ≤ es.length ∧ i = .int .i64 k ∧ wr.rowIs w.heap.size 125 (es.length * 2) f ∧ (∀ j (_ : j < k) (hj : j < es.length), f (j * 2) = .int .i64 es[j].1 ∧ f (j * 2 + 1) = .int .i64 es[j].2) ∧ Below w.heap.size w wr) (fun i _ => es.length - (intOf i).toNat)
  case atStart =>
    obtain ⟨f, hf⟩ := rowIs_made' w #[.int .i64 0, .int .i64 0] (es.length * 2) 125
    exact ⟨0, f, Nat.zero_le _, rfl, hf, by intro j hj; omega, (Below.refl _ _).alloc (Nat.le_refl _) _⟩
  case round =>
    obtain ⟨k, f, hk, rfl, hf, hfs, hb⟩ := hrel
    have HF := hide hf
    have HFS := hide hfs
    clear hf hfs hmk
    by_cases hlt : k < es.length
    · obtain ⟨b, off, rfl, c0, c1⟩ := (EndsAt.later HP.out hb) k hlt
      go_wp2_with fail
      refine (toStep_any _ _ _).mono ?_
      rintro e w1 ⟨rfl, hb1⟩
      have hb2 := hb.trans (hb1.mono hb.size)
      have hf1 := HF.out.of_block (hb1.block _ HF.out.lt)
      have d0 := hf1.cell (i := k * 2) (by omega)
      have d1 := hf1.cell (i := k * 2 + 1) (by omega)
      have z0 := hf1.frozen (k * 2)
      have z1 := hf1.frozen (k * 2 + 1)
      have HF1 := hide hf1
      clear hf1
      go_wp2_with fail
      go_roundw
      case rel =>
        refine ⟨k + 1, _, by omega, by go_num, (HF1.out.set _ _).set _ _, ?_, (hb2.setCell (by simp) _).setCell (by simp) _⟩
        intro j hj hj'
        rcases Nat.lt_succ_iff_lt_or_eq.mp hj with h | h
        · have := HFS.out j h hj'
          constructor
          · rw [if_neg (by omega), if_neg (by omega)]; exact this.1
          · rw [if_neg (by omega), if_neg (by omega)]; exact this.2
        · subst h
          constructor
          · rw [if_neg (by omega), if_pos rfl]
          · rw [if_pos rfl]
      case measure => simp [intOf]; omega
    · go_wp2_with fail
      go_ret
      refine ⟨rfl, ⟨f, HF.out⟩, ?_, hb⟩
      intro j hj
      have := HFS.out j (by omega) hj
      refine ⟨_, 0, rfl, ?_, ?_⟩
      · rw [Nat.zero_add, HF.out.cell (by omega), this.1]
      · rw [Nat.zero_add, HF.out.cell (by omega), this.2]

theorem eqStep_same (c a : Int) (w : World) : Calls Try.prog 102 #[.agg #[.int .i64 c, .int .i64 a], .agg #[.int .i64 c, .int .i64 a]] w fun e w' =>
    e = .returned (.bool true) ∧ Below w.heap.size w w' := by
  go_enter Try.func102, Try.ntmps102
  go_wp2
  go_ret
  exact ⟨rfl, ((Below.refl _ _).alloc (Nat.le_refl _) _).alloc (by simp) _⟩

theorem eqStepS_same (a a' : Option Addr) (es : List (Int × Int)) (cap cap' : Nat) (w : World) (hn : es.length ≤ 1048576) (hp : EndsAt w a es) (hp' : EndsAt w a' es) :
    Calls Try.prog 59 #[.slice a es.length cap, .slice a' es.length cap'] w fun e w' =>
    e = .returned (.bool true) ∧ Below w.heap.size w w' := by
  have HP := hide hp
  have HP' := hide hp'
  clear hp hp'
  go_enter Try.func59, Try.ntmps59
  go_wp2
  go_loopw [5] (fun i wr => ∃ (k : Nat), k ≤ es.length ∧ i = .int .i64 k ∧ Below w.heap.size w wr) (fun i _ => es.length - (intOf i).toNat)
  case atStart => exact ⟨0, Nat.zero_le _, rfl, Below.refl _ _⟩
  case round =>
    obtain ⟨k, hk, rfl, hb⟩ := hrel
    by_cases hlt : k < es.length
    · obtain ⟨b, off, rfl, c0, c1⟩ := (EndsAt.later HP.out hb) k hlt
      obtain ⟨b', off', rfl, c0', c1'⟩ := (EndsAt.later HP'.out hb) k hlt
      go_wp2_with fail
      go_region_with (go_at_call 102; refine (eqStep_same _ _ _).mono ?_; rintro e w1 ⟨rfl, hb1⟩)
      all_goals
        have hb2 := hb.trans (Below.mono (Below.trans (Below.drew (Below.refl _ _)) hb1) hb.size)
        go_wp2_with fail
        go_roundw
        case rel => exact ⟨k + 1, by omega, by go_num, hb2⟩
        case measure => simp [intOf]; omega
    · go_wp2_with fail
      go_ret
      exact ⟨rfl, hb⟩

theorem markStepS_some (b n cap m : Nat) (k : Int) (w : World) (hn : n ≤ 1048576) (hnm : n * 2 ≤ m) (h0 : 0 ≤ k) (h1 : k ≤ 1125899906842624) (hr : Row w b 125 m) :
    Calls Try.prog 60 #[.slice (some ⟨b, 0, none⟩) n cap, .int .i64 k] w fun e w' =>
    e = .returned (.int .i64 (k + 2 * n)) ∧ Mid b (b + 1) w w' ∧ Row w' b 125 m ∧ Marked w' (some ⟨b, 0, none⟩) n k := by
  have HR := hide hr
  clear hr
  go_enter Try.func60, Try.ntmps60
  go_wp2
  go_loopw [1, 5] (fun q i wr => ∃ (t : Nat) (f : Nat → Value), t ≤ n ∧ i = .int .i64 t ∧ q = .int .i64 (k + 2 * t) ∧ Hid (wr.rowIs b 125 m f) ∧ Hid (∀ j, j < t → f (j * 2) = .int .i64 (k + 2 * j) ∧ f (j * 2 + 1) = .int .i64 (k + 2 * j + 1)) ∧ Mid b (b + 1) w wr) (fun _ i _ => n - (intOf i).toNat)
  case atStart =>
    obtain ⟨f, hf⟩ := HR.out
    exact ⟨0, f, Nat.zero_le _, rfl, by simp, hf, (fun j hj => by omega), Mid.refl _ _ _⟩
  case round =>
    obtain ⟨t, f, ht, rfl, rfl, hf, hfs, hm'⟩ := hrel
    by_cases hlt : t < n
    · have d0 := hf.out.cell (i := t * 2) (by omega)
      have d1 := hf.out.cell (i := t * 2 + 1) (by omega)
      have z0 := hf.out.frozen (t * 2)
      have z1 := hf.out.frozen (t * 2 + 1)
      go_wp2
      go_roundw
      case rel =>
        refine ⟨t + 1, _, by omega, by go_num, ?_, (hf.out.set _ _).set _ _, ?_, (hm'.setCell (Nat.le_refl _) (by omega) _).setCell (Nat.le_refl _) (by omega) _⟩
        · congr 1; omega
        · intro j hj
          by_cases e : j = t
          · subst e
            constructor
            · rw [if_neg (by omega), if_pos rfl]
            · rw [if_pos rfl]
          · have := hfs.out j (by omega)
            constructor
            · rw [if_neg (by omega), if_neg (by omega)]; exact this.1
            · rw [if_neg (by omega), if_neg (by omega)]; exact this.2
      case measure => simp [intOf]; omega
    · obtain rfl : t = n := by omega
      go_wp2
      go_ret
      refine ⟨rfl, hm', ⟨f, hf.out⟩, ?_⟩
      intro i hi
      have := hfs.out i hi
      exact ⟨b, rfl, by rw [hf.out.cell (by omega), this.1], by rw [hf.out.cell (by omega), this.2]⟩

theorem markStepS_none (a : Option Addr) (cap : Nat) (k : Int) (w : World) :
    Calls Try.prog 60 #[.slice a 0 cap, .int .i64 k] w fun e w' => e = .returned (.int .i64 k) ∧ w = w' := by
  go_enter Try.func60, Try.ntmps60
  go_wp2
  go_loop [1, 5] (fun q i => q = .int .i64 k ∧ i = .int .i64 0) (fun _ i => 0)
  case atStart => exact ⟨rfl, rfl⟩
  case round =>
    obtain ⟨rfl, rfl⟩ := hrel
    go_wp2
    go_ret
    exact ⟨rfl, rfl⟩

theorem eqLie_same (c a : Int) (w : World) : Calls Try.prog 101 #[.agg #[.int .i64 c, .int .i64 a], .agg #[.int .i64 c, .int .i64 a]] w fun e w' =>
    e = .returned (.bool true) ∧ Below w.heap.size w w' := by
  go_enter Try.func101, Try.ntmps101
  go_wp2
  go_ret
  exact ⟨rfl, ((Below.refl _ _).alloc (Nat.le_refl _) _).alloc (by simp) _⟩

theorem eqLieS_same (a a' : Option Addr) (es : List (Int × Int)) (cap cap' : Nat) (w : World) (hn : es.length ≤ 1048576) (hp : EndsAt w a es) (hp' : EndsAt w a' es) :
    Calls Try.prog 58 #[.slice a es.length cap, .slice a' es.length cap'] w fun e w' =>
    e = .returned (.bool true) ∧ Below w.heap.size w w' := by
  have HP := hide hp
  have HP' := hide hp'
  clear hp hp'
  go_enter Try.func58, Try.ntmps58
  go_wp2
  go_loopw [5] (fun i wr => ∃ (k : Nat), k ≤ es.length ∧ i = .int .i64 k ∧ Below w.heap.size w wr) (fun i _ => es.length - (intOf i).toNat)
  case atStart => exact ⟨0, Nat.zero_le _, rfl, Below.refl _ _⟩
  case round =>
    obtain ⟨k, hk, rfl, hb⟩ := hrel
    by_cases hlt : k < es.length
    · obtain ⟨b, off, rfl, c0, c1⟩ := (EndsAt.later HP.out hb) k hlt
      obtain ⟨b', off', rfl, c0', c1'⟩ := (EndsAt.later HP'.out hb) k hlt
      go_wp2_with fail
      go_region_with (go_at_call 101; refine (eqLie_same _ _ _).mono ?_; rintro e w1 ⟨rfl, hb1⟩)
      all_goals
        have hb2 := hb.trans (Below.mono (Below.trans (Below.drew (Below.refl _ _)) hb1) hb.size)
        go_wp2_with fail
        go_roundw
        case rel => exact ⟨k + 1, by omega, by go_num, hb2⟩
        case measure => simp [intOf]; omega
    · go_wp2_with fail
      go_ret
      exact ⟨rfl, hb⟩

theorem markLieS_some (b n cap m : Nat) (k : Int) (w : World) (hn : n ≤ 1048576) (hnm : n * 2 ≤ m) (h0 : 0 ≤ k) (h1 : k ≤ 1125899906842624) (hr : Row w b 132 m) :
    Calls Try.prog 61 #[.slice (some ⟨b, 0, none⟩) n cap, .int .i64 k] w fun e w' =>
    e = .returned (.int .i64 (k + 2 * n)) ∧ Mid b (b + 1) w w' ∧ Row w' b 132 m ∧ Marked w' (some ⟨b, 0, none⟩) n k := by
  have HR := hide hr
  clear hr
  go_enter Try.func61, Try.ntmps61
  go_wp2
  go_loopw [1, 5] (fun q i wr => ∃ (t : Nat) (f : Nat → Value), t ≤ n ∧ i = .int .i64 t ∧ q = .int .i64 (k + 2 * t) ∧ Hid (wr.rowIs b 132 m f) ∧ Hid (∀ j, j < t → f (j * 2) = .int .i64 (k + 2 * j) ∧ f (j * 2 + 1) = .int .i64 (k + 2 * j + 1)) ∧ Mid b (b + 1) w wr) (fun _ i _ => n - (intOf i).toNat)
  case atStart =>
    obtain ⟨f, hf⟩ := HR.out
    exact ⟨0, f, Nat.zero_le _, rfl, by simp, hf, (fun j hj => by omega), Mid.refl _ _ _⟩
  case round =>
    obtain ⟨t, f, ht, rfl, rfl, hf, hfs, hm'⟩ := hrel
    by_cases hlt : t < n
    · have d0 := hf.out.cell (i := t * 2) (by omega)
      have d1 := hf.out.cell (i := t * 2 + 1) (by omega)
      have z0 := hf.out.frozen (t * 2)
      have z1 := hf.out.frozen (t * 2 + 1)
      go_wp2
      go_roundw
      case rel =>
        refine ⟨t + 1, _, by omega, by go_num, ?_, (hf.out.set _ _).set _ _, ?_, (hm'.setCell (Nat.le_refl _) (by omega) _).setCell (Nat.le_refl _) (by omega) _⟩
        · congr 1; omega
        · intro j hj
          by_cases e : j = t
          · subst e
            constructor
            · rw [if_neg (by omega), if_pos rfl]
            · rw [if_pos rfl]
          · have := hfs.out j (by omega)
            constructor
            · rw [if_neg (by omega), if_neg (by omega)]; exact this.1
            · rw [if_neg (by omega), if_neg (by omega)]; exact this.2
      case measure => simp [intOf]; omega
    · obtain rfl : t = n := by omega
      go_wp2
      go_ret
      refine ⟨rfl, hm', ⟨f, hf.out⟩, ?_⟩
      intro i hi
      have := hfs.out i hi
      exact ⟨b, rfl, by rw [hf.out.cell (by omega), this.1], by rw [hf.out.cell (by omega), this.2]⟩

theorem markLieS_none (a : Option Addr) (cap : Nat) (k : Int) (w : World) :
    Calls Try.prog 61 #[.slice a 0 cap, .int .i64 k] w fun e w' => e = .returned (.int .i64 k) ∧ w = w' := by
  go_enter Try.func61, Try.ntmps61
  go_wp2
  go_loop [1, 5] (fun q i => q = .int .i64 k ∧ i = .int .i64 0) (fun _ i => 0)
  case atStart => exact ⟨rfl, rfl⟩
  case round =>
    obtain ⟨rfl, rfl⟩ := hrel
    go_wp2
    go_ret
    exact ⟨rfl, rfl⟩

theorem heldLieS_any (a : Option Addr) (n cap : Nat) (k : Int) (w : World) (hn : n ≤ 1048576) (h0 : 0 ≤ k) (h1 : k ≤ 1125899906842624) (hm : Marked w a n k) :
    Calls Try.prog 62 #[.slice a n cap, .int .i64 k] w fun e w' => e = .returned (.int .i64 (k + 2 * n)) ∧ w = w' := by
  have HM := hide hm
  clear hm
  go_enter Try.func62, Try.ntmps62
  go_wp2
  go_loop [1, 5] (fun q i => ∃ (t : Nat), t ≤ n ∧ i = .int .i64 t ∧ q = .int .i64 (k + 2 * t)) (fun _ i => n - (intOf i).toNat)
  case atStart => exact ⟨0, Nat.zero_le _, rfl, by simp⟩
  case round =>
    obtain ⟨t, ht, rfl, rfl⟩ := hrel
    by_cases hlt : t < n
    · obtain ⟨b, rfl, d0, d1⟩ := HM.out t hlt
      go_wp2
      refine ⟨⟨t + 1, by omega, by go_num, ?_⟩, by simp [intOf]; omega⟩
      congr 1; omega
    · obtain rfl : t = n := by omega
      go_wp2
      go_ret
      exact ⟨rfl, rfl⟩

end Go.Proofs.Ytplnppdlabpodaa

import Derived.Test.YtncanhbmbjoamaaGreatMxAM
import Derived.Deep.RegionWith
import Derived.Deep.QuietTactic
import Derived.BigQuiet
namespace Go.Proofs.YtncanhbmbjoamaaGreat
open Go.RowKit
set_option maxHeartbeats 1000000

theorem kindOf_none (k : Int) (h : k < 1 ∨ 4 < k) (w : World) : Calls Tryz.prog 117 #[.int .i64 k] w fun e w' => e = .returned .nilIface ∧ w = w' := by
  have h1 : (k == 1) = false := by rw [beq_eq_false_iff_ne]; omega
  have h2 : (k == 2) = false := by rw [beq_eq_false_iff_ne]; omega
  have h3 : (k == 3) = false := by rw [beq_eq_false_iff_ne]; omega
  have h4 : (k == 4) = false := by rw [beq_eq_false_iff_ne]; omega
  clear h
  go_enter Tryz.func117, Tryz.ntmps117
  go_wp2
  go_ret
  exact ⟨rfl, rfl⟩

theorem kindOf_1 (w : World) : Calls Tryz.prog 117 #[.int .i64 1] w fun e w' => e = .returned (.iface 213 (.agg #[])) ∧ w = w' := by
  go_enter Tryz.func117, Tryz.ntmps117
  go_wp2
  go_ret
  exact ⟨rfl, rfl⟩
theorem mn_1 (w : World) : (method 343 213 (.agg #[]) "loop.example/ballast/impl.named").run Tryz.prog w = .ok (184, .agg #[]) w := by kernel_rfl
theorem ms_1 (w : World) : (method 343 213 (.agg #[]) "loop.example/ballast/impl.size").run Tryz.prog w = .ok (185, .agg #[]) w := by kernel_rfl
theorem size_1 (w : World) : Calls Tryz.prog 185 #[.agg #[]] w fun e w' => e = .returned (.int .i64 1) ∧ Below w.heap.size w w' := by
  go_enter Tryz.func185, Tryz.ntmps185
  go_wp2
  go_ret
  exact ⟨rfl, (Below.refl _ _).alloc (Nat.le_refl _) _⟩
theorem named_1 (w : World) : Calls Tryz.prog 184 #[.agg #[]] w fun e w' => e = .returned (.bool false) ∧ Below w.heap.size w w' := by
  go_enter Tryz.func184, Tryz.ntmps184
  go_wp2
  go_ret
  exact ⟨rfl, (Below.refl _ _).alloc (Nat.le_refl _) _⟩

theorem kindOf_2 (w : World) : Calls Tryz.prog 117 #[.int .i64 2] w fun e w' => e = .returned (.iface 205 (.agg #[])) ∧ w = w' := by
  go_enter Tryz.func117, Tryz.ntmps117
  go_wp2
  go_ret
  exact ⟨rfl, rfl⟩
theorem mn_2 (w : World) : (method 343 205 (.agg #[]) "loop.example/ballast/impl.named").run Tryz.prog w = .ok (178, .agg #[]) w := by kernel_rfl
theorem ms_2 (w : World) : (method 343 205 (.agg #[]) "loop.example/ballast/impl.size").run Tryz.prog w = .ok (179, .agg #[]) w := by kernel_rfl
theorem size_2 (w : World) : Calls Tryz.prog 179 #[.agg #[]] w fun e w' => e = .returned (.int .i64 2) ∧ Below w.heap.size w w' := by
  go_enter Tryz.func179, Tryz.ntmps179
  go_wp2
  go_ret
  exact ⟨rfl, (Below.refl _ _).alloc (Nat.le_refl _) _⟩
theorem named_2 (w : World) : Calls Tryz.prog 178 #[.agg #[]] w fun e w' => e = .returned (.bool false) ∧ Below w.heap.size w w' := by
  go_enter Tryz.func178, Tryz.ntmps178
  go_wp2
  go_ret
  exact ⟨rfl, (Below.refl _ _).alloc (Nat.le_refl _) _⟩

theorem kindOf_3 (w : World) : Calls Tryz.prog 117 #[.int .i64 3] w fun e w' => e = .returned (.iface 206 (.agg #[])) ∧ w = w' := by
  go_enter Tryz.func117, Tryz.ntmps117
  go_wp2
  go_ret
  exact ⟨rfl, rfl⟩
theorem mn_3 (w : World) : (method 343 206 (.agg #[]) "loop.example/ballast/impl.named").run Tryz.prog w = .ok (180, .agg #[]) w := by kernel_rfl
theorem ms_3 (w : World) : (method 343 206 (.agg #[]) "loop.example/ballast/impl.size").run Tryz.prog w = .ok (181, .agg #[]) w := by kernel_rfl
theorem size_3 (w : World) : Calls Tryz.prog 181 #[.agg #[]] w fun e w' => e = .returned (.int .i64 3) ∧ Below w.heap.size w w' := by
  go_enter Tryz.func181, Tryz.ntmps181
  go_wp2
  go_ret
  exact ⟨rfl, (Below.refl _ _).alloc (Nat.le_refl _) _⟩
theorem named_3 (w : World) : Calls Tryz.prog 180 #[.agg #[]] w fun e w' => e = .returned (.bool true) ∧ Below w.heap.size w w' := by
  go_enter Tryz.func180, Tryz.ntmps180
  go_wp2
  go_ret
  exact ⟨rfl, (Below.refl _ _).alloc (Nat.le_refl _) _⟩

theorem kindOf_4 (w : World) : Calls Tryz.prog 117 #[.int .i64 4] w fun e w' => e = .returned (.iface 207 (.agg #[])) ∧ w = w' := by
  go_enter Tryz.func117, Tryz.ntmps117
  go_wp2
  go_ret
  exact ⟨rfl, rfl⟩
theorem mn_4 (w : World) : (method 343 207 (.agg #[]) "loop.example/ballast/impl.named").run Tryz.prog w = .ok (182, .agg #[]) w := by kernel_rfl
theorem ms_4 (w : World) : (method 343 207 (.agg #[]) "loop.example/ballast/impl.size").run Tryz.prog w = .ok (183, .agg #[]) w := by kernel_rfl
theorem size_4 (w : World) : Calls Tryz.prog 183 #[.agg #[]] w fun e w' => e = .returned (.int .i64 4) ∧ Below w.heap.size w w' := by
  go_enter Tryz.func183, Tryz.ntmps183
  go_wp2
  go_ret
  exact ⟨rfl, (Below.refl _ _).alloc (Nat.le_refl _) _⟩
theorem named_4 (w : World) : Calls Tryz.prog 182 #[.agg #[]] w fun e w' => e = .returned (.bool true) ∧ Below w.heap.size w w' := by
  go_enter Tryz.func182, Tryz.ntmps182
  go_wp2
  go_ret
  exact ⟨rfl, (Below.refl _ _).alloc (Nat.le_refl _) _⟩

theorem jointNameOk_1 (s : ByteArray) (a : Option Addr) (n cap : Nat) (w : World) :
    Calls Tryz.prog 133 #[.agg #[.int .i64 1, .string s, .slice a n cap]] w fun e w' =>
    e = .returned (.bool s.toList.isEmpty) ∧ Below w.heap.size w w' := by
  have hm := mn_1
  go_enter Tryz.func133, Tryz.ntmps133
  go_wp2_with fail
  refine (kindOf_1 _).mono ?_
  rintro e w1 ⟨rfl, rfl⟩
  go_wp2_with fail
  refine (named_1 _).mono ?_
  rintro e w1 ⟨rfl, hb1⟩
  have d1 := box_cell hb1 1 _ rfl
  have hb2 := ((Below.refl w.heap.size w).alloc (Nat.le_refl _) _).trans (hb1.mono (by simp))
  go_wp2_with fail
  go_ret
  exact ⟨rfl, hb2⟩

theorem jointNameOk_2 (s : ByteArray) (a : Option Addr) (n cap : Nat) (w : World) :
    Calls Tryz.prog 133 #[.agg #[.int .i64 2, .string s, .slice a n cap]] w fun e w' =>
    e = .returned (.bool s.toList.isEmpty) ∧ Below w.heap.size w w' := by
  have hm := mn_2
  go_enter Tryz.func133, Tryz.ntmps133
  go_wp2_with fail
  refine (kindOf_2 _).mono ?_
  rintro e w1 ⟨rfl, rfl⟩
  go_wp2_with fail
  refine (named_2 _).mono ?_
  rintro e w1 ⟨rfl, hb1⟩
  have d1 := box_cell hb1 1 _ rfl
  have hb2 := ((Below.refl w.heap.size w).alloc (Nat.le_refl _) _).trans (hb1.mono (by simp))
  go_wp2_with fail
  go_ret
  exact ⟨rfl, hb2⟩

theorem jointNameOk_3 (s : ByteArray) (a : Option Addr) (n cap : Nat) (w : World) (hs : s.size ≤ 1048576) :
    Calls Tryz.prog 133 #[.agg #[.int .i64 3, .string s, .slice a n cap]] w fun e w' =>
    e = .returned (.bool (nm s)) ∧ Below w.heap.size w w' := by
  have hm := mn_3
  go_enter Tryz.func133, Tryz.ntmps133
  go_wp2_with fail
  refine (kindOf_3 _).mono ?_
  rintro e w1 ⟨rfl, rfl⟩
  go_wp2_with fail
  refine (named_3 _).mono ?_
  rintro e w1 ⟨rfl, hb1⟩
  have d1 := box_cell hb1 1 _ rfl
  have hb2 := ((Below.refl w.heap.size w).alloc (Nat.le_refl _) _).trans (hb1.mono (by simp))
  go_wp2_with fail
  refine (nameOk_any s _ hs).mono ?_
  rintro e w2 ⟨rfl, rfl⟩
  go_wp2_with fail
  go_ret
  exact ⟨rfl, hb2⟩

theorem jointNameOk_4 (s : ByteArray) (a : Option Addr) (n cap : Nat) (w : World) (hs : s.size ≤ 1048576) :
    Calls Tryz.prog 133 #[.agg #[.int .i64 4, .string s, .slice a n cap]] w fun e w' =>
    e = .returned (.bool (nm s)) ∧ Below w.heap.size w w' := by
  have hm := mn_4
  go_enter Tryz.func133, Tryz.ntmps133
  go_wp2_with fail
  refine (kindOf_4 _).mono ?_
  rintro e w1 ⟨rfl, rfl⟩
  go_wp2_with fail
  refine (named_4 _).mono ?_
  rintro e w1 ⟨rfl, hb1⟩
  have d1 := box_cell hb1 1 _ rfl
  have hb2 := ((Below.refl w.heap.size w).alloc (Nat.le_refl _) _).trans (hb1.mono (by simp))
  go_wp2_with fail
  refine (nameOk_any s _ hs).mono ?_
  rintro e w2 ⟨rfl, rfl⟩
  go_wp2_with fail
  go_ret
  exact ⟨rfl, hb2⟩

theorem jointOk_none (k : Int) (h : k < 1 ∨ 4 < k) (s : ByteArray) (a : Option Addr) (es : List (Int × Int)) (cap n : Nat) (w : World) :
    Calls Tryz.prog 132 #[.agg #[.int .i64 k, .string s, .slice a es.length cap], .int .i64 n] w fun e w' =>
    e = .returned (.bool false) ∧ Below w.heap.size w w' := by
  go_enter Tryz.func132, Tryz.ntmps132
  go_wp2_with fail
  refine (kindOf_none k h _).mono ?_
  rintro e w1 ⟨rfl, rfl⟩
  go_wp2_with fail
  go_quiet (fail)
  go_wp2_with fail
  go_ret
  exact ⟨rfl, below_drewN ((Below.refl _ _).alloc (Nat.le_refl _) _) _⟩
end Go.Proofs.YtncanhbmbjoamaaGreat

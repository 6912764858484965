import Derived.Test.YteapmddadieohaaMxAK
import Derived.Deep.RegionWith
import Derived.Deep.QuietTactic
import Derived.BigQuiet
namespace Go.Proofs.Yteapmddadieohaa
open Go.RowKit
set_option maxHeartbeats 1000000

theorem kindOf_none (k : Int) (h : k < 1 ∨ 4 < k) (w : World) : Calls Try.prog 55 #[.int .i64 k] w fun e w' => e = .returned .nilIface ∧ w = w' := by
  have h1 : (k == 1) = false := by rw [beq_eq_false_iff_ne]; omega
  have h2 : (k == 2) = false := by rw [beq_eq_false_iff_ne]; omega
  have h3 : (k == 3) = false := by rw [beq_eq_false_iff_ne]; omega
  have h4 : (k == 4) = false := by rw [beq_eq_false_iff_ne]; omega
  clear h
  go_enter Try.func55, Try.ntmps55
  go_wp2
  go_ret
  exact ⟨rfl, rfl⟩

theorem kindOf_1 (w : World) : Calls Try.prog 55 #[.int .i64 1] w fun e w' => e = .returned (.iface 110 (.agg #[])) ∧ w = w' := by
  go_enter Try.func55, Try.ntmps55
  go_wp2
  go_ret
  exact ⟨rfl, rfl⟩
theorem mn_1 (w : World) : (method 233 110 (.agg #[]) "loop.example/ballast/impl.named").run Try.prog w = .ok (86, .agg #[]) w := by kernel_rfl
theorem ms_1 (w : World) : (method 233 110 (.agg #[]) "loop.example/ballast/impl.size").run Try.prog w = .ok (87, .agg #[]) w := by kernel_rfl
theorem size_1 (w : World) : Calls Try.prog 87 #[.agg #[]] w fun e w' => e = .returned (.int .i64 1) ∧ Below w.heap.size w w' := by
  go_enter Try.func87, Try.ntmps87
  go_wp2
  go_ret
  exact ⟨rfl, (Below.refl _ _).alloc (Nat.le_refl _) _⟩
theorem named_1 (w : World) : Calls Try.prog 86 #[.agg #[]] w fun e w' => e = .returned (.bool false) ∧ Below w.heap.size w w' := by
  go_enter Try.func86, Try.ntmps86
  go_wp2
  go_ret
  exact ⟨rfl, (Below.refl _ _).alloc (Nat.le_refl _) _⟩

theorem kindOf_2 (w : World) : Calls Try.prog 55 #[.int .i64 2] w fun e w' => e = .returned (.iface 112 (.agg #[])) ∧ w = w' := by
  go_enter Try.func55, Try.ntmps55
  go_wp2
  go_ret
  exact ⟨rfl, rfl⟩
theorem mn_2 (w : World) : (method 233 112 (.agg #[]) "loop.example/ballast/impl.named").run Try.prog w = .ok (90, .agg #[]) w := by kernel_rfl
theorem ms_2 (w : World) : (method 233 112 (.agg #[]) "loop.example/ballast/impl.size").run Try.prog w = .ok (91, .agg #[]) w := by kernel_rfl
theorem size_2 (w : World) : Calls Try.prog 91 #[.agg #[]] w fun e w' => e = .returned (.int .i64 2) ∧ Below w.heap.size w w' := by
  go_enter Try.func91, Try.ntmps91
  go_wp2
  go_ret
  exact ⟨rfl, (Below.refl _ _).alloc (Nat.le_refl _) _⟩
theorem named_2 (w : World) : Calls Try.prog 90 #[.agg #[]] w fun e w' => e = .returned (.bool false) ∧ Below w.heap.size w w' := by
  go_enter Try.func90, Try.ntmps90
  go_wp2
  go_ret
  exact ⟨rfl, (Below.refl _ _).alloc (Nat.le_refl _) _⟩

theorem kindOf_3 (w : World) : Calls Try.prog 55 #[.int .i64 3] w fun e w' => e = .returned (.iface 111 (.agg #[])) ∧ w = w' := by
  go_enter Try.func55, Try.ntmps55
  go_wp2
  go_ret
  exact ⟨rfl, rfl⟩
theorem mn_3 (w : World) : (method 233 111 (.agg #[]) "loop.example/ballast/impl.named").run Try.prog w = .ok (88, .agg #[]) w := by kernel_rfl
theorem ms_3 (w : World) : (method 233 111 (.agg #[]) "loop.example/ballast/impl.size").run Try.prog w = .ok (89, .agg #[]) w := by kernel_rfl
theorem size_3 (w : World) : Calls Try.prog 89 #[.agg #[]] w fun e w' => e = .returned (.int .i64 3) ∧ Below w.heap.size w w' := by
  go_enter Try.func89, Try.ntmps89
  go_wp2
  go_ret
  exact ⟨rfl, (Below.refl _ _).alloc (Nat.le_refl _) _⟩
theorem named_3 (w : World) : Calls Try.prog 88 #[.agg #[]] w fun e w' => e = .returned (.bool true) ∧ Below w.heap.size w w' := by
  go_enter Try.func88, Try.ntmps88
  go_wp2
  go_ret
  exact ⟨rfl, (Below.refl _ _).alloc (Nat.le_refl _) _⟩

theorem kindOf_4 (w : World) : Calls Try.prog 55 #[.int .i64 4] w fun e w' => e = .returned (.iface 113 (.agg #[])) ∧ w = w' := by
  go_enter Try.func55, Try.ntmps55
  go_wp2
  go_ret
  exact ⟨rfl, rfl⟩
theorem mn_4 (w : World) : (method 233 113 (.agg #[]) "loop.example/ballast/impl.named").run Try.prog w = .ok (92, .agg #[]) w := by kernel_rfl
theorem ms_4 (w : World) : (method 233 113 (.agg #[]) "loop.example/ballast/impl.size").run Try.prog w = .ok (93, .agg #[]) w := by kernel_rfl
theorem size_4 (w : World) : Calls Try.prog 93 #[.agg #[]] w fun e w' => e = .returned (.int .i64 4) ∧ Below w.heap.size w w' := by
  go_enter Try.func93, Try.ntmps93
  go_wp2
  go_ret
  exact ⟨rfl, (Below.refl _ _).alloc (Nat.le_refl _) _⟩
theorem named_4 (w : World) : Calls Try.prog 92 #[.agg #[]] w fun e w' => e = .returned (.bool true) ∧ Below w.heap.size w w' := by
  go_enter Try.func92, Try.ntmps92
  go_wp2
  go_ret
  exact ⟨rfl, (Below.refl _ _).alloc (Nat.le_refl _) _⟩

theorem jointNameOk_1 (s : ByteArray) (a : Option Addr) (n cap : Nat) (w : World) :
    Calls Try.prog 62 #[.agg #[.int .i64 1, .string s, .slice a n cap]] w fun e w' =>
    e = .returned (.bool s.toList.isEmpty) ∧ Below w.heap.size w w' := by
  have hm := mn_1
  go_enter Try.func62, Try.ntmps62
  go_wp2_with fail
  refine (kindOf_1 _).mono ?_
  rintro e w1 ⟨rfl, rfl⟩
  go_wp2_with fail
  refine (named_1 _).mono ?_
  rintro e w1 ⟨rfl, hb1⟩
  have d1 := box_cell hb1 1 _ rfl
  have hb2 := ((Below.refl w.heap.size w).alloc (Nat.le_refl _) _).trans (hb1.mono (by simp))
  go_wp2_with fail
  go_ret
  exact ⟨rfl, hb2⟩

theorem jointNameOk_2 (s : ByteArray) (a : Option Addr) (n cap : Nat) (w : World) :
    Calls Try.prog 62 #[.agg #[.int .i64 2, .string s, .slice a n cap]] w fun e w' =>
    e = .returned (.bool s.toList.isEmpty) ∧ Below w.heap.size w w' := by
  have hm := mn_2
  go_enter Try.func62, Try.ntmps62
  go_wp2_with fail
  refine (kindOf_2 _).mono ?_
  rintro e w1 ⟨rfl, rfl⟩
  go_wp2_with fail
  refine (named_2 _).mono ?_
  rintro e w1 ⟨rfl, hb1⟩
  have d1 := box_cell hb1 1 _ rfl
  have hb2 := ((Below.refl w.heap.size w).alloc (Nat.le_refl _) _).trans (hb1.mono (by simp))
  go_wp2_with fail
  go_ret
  exact ⟨rfl, hb2⟩

theorem jointNameOk_3 (s : ByteArray) (a : Option Addr) (n cap : Nat) (w : World) (hs : s.size ≤ 1048576) :
    Calls Try.prog 62 #[.agg #[.int .i64 3, .string s, .slice a n cap]] w fun e w' =>
    e = .returned (.bool (nm s)) ∧ Below w.heap.size w w' := by
  have hm := mn_3
  go_enter Try.func62, Try.ntmps62
  go_wp2_with fail
  refine (kindOf_3 _).mono ?_
  rintro e w1 ⟨rfl, rfl⟩
  go_wp2_with fail
  refine (named_3 _).mono ?_
  rintro e w1 ⟨rfl, hb1⟩
  have d1 := box_cell hb1 1 _ rfl
  have hb2 := ((Below.refl w.heap.size w).alloc (Nat.le_refl _) _).trans (hb1.mono (by simp))
  go_wp2_with fail
  refine (nameOk_any s _ hs).mono ?_
  rintro e w2 ⟨rfl, rfl⟩
  go_wp2_with fail
  go_ret
  exact ⟨rfl, hb2⟩

theorem jointNameOk_4 (s : ByteArray) (a : Option Addr) (n cap : Nat) (w : World) (hs : s.size ≤ 1048576) :
    Calls Try.prog 62 #[.agg #[.int .i64 4, .string s, .slice a n cap]] w fun e w' =>
    e = .returned (.bool (nm s)) ∧ Below w.heap.size w w' := by
  have hm := mn_4
  go_enter Try.func62, Try.ntmps62
  go_wp2_with fail
  refine (kindOf_4 _).mono ?_
  rintro e w1 ⟨rfl, rfl⟩
  go_wp2_with fail
  refine (named_4 _).mono ?_
  rintro e w1 ⟨rfl, hb1⟩
  have d1 := box_cell hb1 1 _ rfl
  have hb2 := ((Below.refl w.heap.size w).alloc (Nat.le_refl _) _).trans (hb1.mono (by simp))
  go_wp2_with fail
  refine (nameOk_any s _ hs).mono ?_
  rintro e w2 ⟨rfl, rfl⟩
  go_wp2_with fail
  go_ret
  exact ⟨rfl, hb2⟩

theorem jointOk_none (k : Int) (h : k < 1 ∨ 4 < k) (s : ByteArray) (a : Option Addr) (es : List (Int × Int)) (cap n : Nat) (w : World) :
    Calls Try.prog 61 #[.agg #[.int .i64 k, .string s, .slice a es.length cap], .int .i64 n] w fun e w' =>
    e = .returned (.bool false) ∧ Below w.heap.size w w' := by
  go_enter Try.func61, Try.ntmps61
  go_wp2_with fail
  refine (kindOf_none k h _).mono ?_
  rintro e w1 ⟨rfl, rfl⟩
  go_wp2_with fail
  go_quiet (fail)
  go_wp2_with fail
  go_ret
  exact ⟨rfl, below_drewN ((Below.refl _ _).alloc (Nat.le_refl _) _) _⟩
end Go.Proofs.Yteapmddadieohaa

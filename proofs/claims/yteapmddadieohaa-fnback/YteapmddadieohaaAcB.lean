import Derived.Test.YteapmddadieohaaAcA
import Derived.Test.YteapmddadieohaaImB
namespace Go.Proofs.Yteapmddadieohaa
open Go.RowKit
set_option maxHeartbeats 1000000

theorem ta_1_2 (w : World) : (Instr.typeAssert (.iface 110 (.agg #[])) 98 112 true).run Try.prog w = .ok (.tuple #[.agg #[], .bool false]) w := by kernel_rfl
theorem ta_1_3 (w : World) : (Instr.typeAssert (.iface 110 (.agg #[])) 98 111 true).run Try.prog w = .ok (.tuple #[.agg #[], .bool false]) w := by kernel_rfl
theorem ta_1_4 (w : World) : (Instr.typeAssert (.iface 110 (.agg #[])) 98 113 true).run Try.prog w = .ok (.tuple #[.agg #[], .bool false]) w := by kernel_rfl
theorem ta_2_2 (w : World) : (Instr.typeAssert (.iface 112 (.agg #[])) 98 112 true).run Try.prog w = .ok (.tuple #[.agg #[], .bool true]) w := by kernel_rfl
theorem ta_2_3 (w : World) : (Instr.typeAssert (.iface 112 (.agg #[])) 98 111 true).run Try.prog w = .ok (.tuple #[.agg #[], .bool false]) w := by kernel_rfl
theorem ta_2_4 (w : World) : (Instr.typeAssert (.iface 112 (.agg #[])) 98 113 true).run Try.prog w = .ok (.tuple #[.agg #[], .bool false]) w := by kernel_rfl
theorem ta_3_2 (w : World) : (Instr.typeAssert (.iface 111 (.agg #[])) 98 112 true).run Try.prog w = .ok (.tuple #[.agg #[], .bool false]) w := by kernel_rfl
theorem ta_3_3 (w : World) : (Instr.typeAssert (.iface 111 (.agg #[])) 98 111 true).run Try.prog w = .ok (.tuple #[.agg #[], .bool true]) w := by kernel_rfl
theorem ta_3_4 (w : World) : (Instr.typeAssert (.iface 111 (.agg #[])) 98 113 true).run Try.prog w = .ok (.tuple #[.agg #[], .bool false]) w := by kernel_rfl
theorem ta_4_2 (w : World) : (Instr.typeAssert (.iface 113 (.agg #[])) 98 112 true).run Try.prog w = .ok (.tuple #[.agg #[], .bool false]) w := by kernel_rfl
theorem ta_4_3 (w : World) : (Instr.typeAssert (.iface 113 (.agg #[])) 98 111 true).run Try.prog w = .ok (.tuple #[.agg #[], .bool false]) w := by kernel_rfl
theorem ta_4_4 (w : World) : (Instr.typeAssert (.iface 113 (.agg #[])) 98 113 true).run Try.prog w = .ok (.tuple #[.agg #[], .bool true]) w := by kernel_rfl

theorem over_1_0 (s : ByteArray) (a : Option Addr) (cap : Nat) (e0 : Int × Int) (w : World) (h : EndsAt w a [e0]) :
    Calls Try.prog 68 #[.agg #[.int .i64 1, .string s, .slice a 1 cap], .int .i64 0] w fun e w' =>
    ∃ v, e = .returned v ∧ NewEnds w.heap.size w' v [] ∧ Below w.heap.size w w' := by
  obtain ⟨b, off, rfl, c00, c01⟩ := h 0 (by simp)
  simp at c00 c01
  have hblt := cell_lt c00
  clear h
  have hB : Below w.heap.size w (w.alloc (.cells #[.int .i64 1, .string s, .slice (some ⟨b, off, none⟩) 1 cap] 53)) := (Below.refl _ _).alloc (Nat.le_refl _) _
  go_enter Try.func68, Try.ntmps68
  go_wp2_with fail
  refine (kindOf_1 _).mono ?_
  rintro e w1 ⟨rfl, rfl⟩
  have ht2 := ta_1_2
  have ht3 := ta_1_3
  have ht4 := ta_1_4
  go_wp2_with fail
  go_ret
  exact ⟨_, rfl, newEnds_nil _ _, hB⟩

theorem over_2_0 (s : ByteArray) (a : Option Addr) (cap : Nat) (e0 e1 : Int × Int) (w : World) (h : EndsAt w a [e0, e1]) :
    Calls Try.prog 68 #[.agg #[.int .i64 2, .string s, .slice a 2 cap], .int .i64 0] w fun e w' =>
    ∃ v, e = .returned v ∧ NewEnds w.heap.size w' v [e1] ∧ Below w.heap.size w w' := by
  obtain ⟨b, off, rfl, c00, c01⟩ := h 0 (by simp)
  obtain ⟨b1, off1, hab1, c10, c11⟩ := h 1 (by simp)
  obtain ⟨rfl, rfl⟩ : b = b1 ∧ off = off1 := by simpa using hab1
  clear hab1
  simp at c00 c01 c10 c11
  have hblt := cell_lt c00
  clear h
  have hB : Below w.heap.size w (w.alloc (.cells #[.int .i64 2, .string s, .slice (some ⟨b, off, none⟩) 2 cap] 53)) := (Below.refl _ _).alloc (Nat.le_refl _) _
  go_enter Try.func68, Try.ntmps68
  go_wp2_with fail
  refine (kindOf_2 _).mono ?_
  rintro e w1 ⟨rfl, rfl⟩
  have ht2 := ta_2_2
  go_wp2_with fail
  go_ret
  have H := newEnds_one (B := w.heap.size) (w.alloc (.cells #[.int .i64 2, .string s, .slice (some ⟨b, off, none⟩) 2 cap] 53)) e1 (by simp; try omega) rfl
  simp only [World.size_alloc] at H
  exact ⟨_, rfl, H, (hB.alloc (by simp; try omega) _)⟩

theorem over_2_1 (s : ByteArray) (a : Option Addr) (cap : Nat) (e0 e1 : Int × Int) (w : World) (h : EndsAt w a [e0, e1]) :
    Calls Try.prog 68 #[.agg #[.int .i64 2, .string s, .slice a 2 cap], .int .i64 1] w fun e w' =>
    ∃ v, e = .returned v ∧ NewEnds w.heap.size w' v [e0] ∧ Below w.heap.size w w' := by
  obtain ⟨b, off, rfl, c00, c01⟩ := h 0 (by simp)
  obtain ⟨b1, off1, hab1, c10, c11⟩ := h 1 (by simp)
  obtain ⟨rfl, rfl⟩ : b = b1 ∧ off = off1 := by simpa using hab1
  clear hab1
  simp at c00 c01 c10 c11
  have hblt := cell_lt c00
  clear h
  have hB : Below w.heap.size w (w.alloc (.cells #[.int .i64 2, .string s, .slice (some ⟨b, off, none⟩) 2 cap] 53)) := (Below.refl _ _).alloc (Nat.le_refl _) _
  go_enter Try.func68, Try.ntmps68
  go_wp2_with fail
  refine (kindOf_2 _).mono ?_
  rintro e w1 ⟨rfl, rfl⟩
  have ht2 := ta_2_2
  go_wp2_with fail
  go_ret
  have H := newEnds_one (B := w.heap.size) (w.alloc (.cells #[.int .i64 2, .string s, .slice (some ⟨b, off, none⟩) 2 cap] 53)) e0 (by simp; try omega) rfl
  simp only [World.size_alloc] at H
  exact ⟨_, rfl, H, (hB.alloc (by simp; try omega) _)⟩

theorem over_3_0 (s : ByteArray) (a : Option Addr) (cap : Nat) (e0 e1 e2 : Int × Int) (w : World) (h : EndsAt w a [e0, e1, e2]) :
    Calls Try.prog 68 #[.agg #[.int .i64 3, .string s, .slice a 3 cap], .int .i64 0] w fun e w' =>
    ∃ v, e = .returned v ∧ NewEnds w.heap.size w' v [e1, e2] ∧ Below w.heap.size w w' := by
  obtain ⟨b, off, rfl, c00, c01⟩ := h 0 (by simp)
  obtain ⟨b1, off1, hab1, c10, c11⟩ := h 1 (by simp)
  obtain ⟨rfl, rfl⟩ : b = b1 ∧ off = off1 := by simpa using hab1
  clear hab1
  obtain ⟨b2, off2, hab2, c20, c21⟩ := h 2 (by simp)
  obtain ⟨rfl, rfl⟩ : b = b2 ∧ off = off2 := by simpa using hab2
  clear hab2
  simp at c00 c01 c10 c11 c20 c21
  have hblt := cell_lt c00
  clear h
  have hB : Below w.heap.size w (w.alloc (.cells #[.int .i64 3, .string s, .slice (some ⟨b, off, none⟩) 3 cap] 53)) := (Below.refl _ _).alloc (Nat.le_refl _) _
  go_enter Try.func68, Try.ntmps68
  go_wp2_with fail
  refine (kindOf_3 _).mono ?_
  rintro e w1 ⟨rfl, rfl⟩
  have ht2 := ta_3_2
  have ht3 := ta_3_3
  go_wp2_with fail
  go_region
  go_wp2_with fail
  go_ret
  have H := newEnds_two (B := w.heap.size) (w.alloc (.cells #[.int .i64 3, .string s, .slice (some ⟨b, off, none⟩) 3 cap] 53)) e1 e2 (by simp; try omega) rfl
  simp only [World.size_alloc] at H
  exact ⟨_, rfl, H.drew, (hB.alloc (by simp; try omega) _).drew⟩

theorem over_3_1 (s : ByteArray) (a : Option Addr) (cap : Nat) (e0 e1 e2 : Int × Int) (w : World) (h : EndsAt w a [e0, e1, e2]) :
    Calls Try.prog 68 #[.agg #[.int .i64 3, .string s, .slice a 3 cap], .int .i64 1] w fun e w' =>
    ∃ v, e = .returned v ∧ NewEnds w.heap.size w' v [e0] ∧ Below w.heap.size w w' := by
  obtain ⟨b, off, rfl, c00, c01⟩ := h 0 (by simp)
  obtain ⟨b1, off1, hab1, c10, c11⟩ := h 1 (by simp)
  obtain ⟨rfl, rfl⟩ : b = b1 ∧ off = off1 := by simpa using hab1
  clear hab1
  obtain ⟨b2, off2, hab2, c20, c21⟩ := h 2 (by simp)
  obtain ⟨rfl, rfl⟩ : b = b2 ∧ off = off2 := by simpa using hab2
  clear hab2
  simp at c00 c01 c10 c11 c20 c21
  have hblt := cell_lt c00
  clear h
  have hB : Below w.heap.size w (w.alloc (.cells #[.int .i64 3, .string s, .slice (some ⟨b, off, none⟩) 3 cap] 53)) := (Below.refl _ _).alloc (Nat.le_refl _) _
  go_enter Try.func68, Try.ntmps68
  go_wp2_with fail
  refine (kindOf_3 _).mono ?_
  rintro e w1 ⟨rfl, rfl⟩
  have ht2 := ta_3_2
  have ht3 := ta_3_3
  go_wp2_with fail
  go_ret
  have H := newEnds_one (B := w.heap.size) (w.alloc (.cells #[.int .i64 3, .string s, .slice (some ⟨b, off, none⟩) 3 cap] 53)) e0 (by simp; try omega) rfl
  simp only [World.size_alloc] at H
  exact ⟨_, rfl, H, (hB.alloc (by simp; try omega) _)⟩

theorem over_3_2 (s : ByteArray) (a : Option Addr) (cap : Nat) (e0 e1 e2 : Int × Int) (w : World) (h : EndsAt w a [e0, e1, e2]) :
    Calls Try.prog 68 #[.agg #[.int .i64 3, .string s, .slice a 3 cap], .int .i64 2] w fun e w' =>
    ∃ v, e = .returned v ∧ NewEnds w.heap.size w' v [e0] ∧ Below w.heap.size w w' := by
  obtain ⟨b, off, rfl, c00, c01⟩ := h 0 (by simp)
  obtain ⟨b1, off1, hab1, c10, c11⟩ := h 1 (by simp)
  obtain ⟨rfl, rfl⟩ : b = b1 ∧ off = off1 := by simpa using hab1
  clear hab1
  obtain ⟨b2, off2, hab2, c20, c21⟩ := h 2 (by simp)
  obtain ⟨rfl, rfl⟩ : b = b2 ∧ off = off2 := by simpa using hab2
  clear hab2
  simp at c00 c01 c10 c11 c20 c21
  have hblt := cell_lt c00
  clear h
  have hB : Below w.heap.size w (w.alloc (.cells #[.int .i64 3, .string s, .slice (some ⟨b, off, none⟩) 3 cap] 53)) := (Below.refl _ _).alloc (Nat.le_refl _) _
  go_enter Try.func68, Try.ntmps68
  go_wp2_with fail
  refine (kindOf_3 _).mono ?_
  rintro e w1 ⟨rfl, rfl⟩
  have ht2 := ta_3_2
  have ht3 := ta_3_3
  go_wp2_with fail
  go_ret
  have H := newEnds_one (B := w.heap.size) (w.alloc (.cells #[.int .i64 3, .string s, .slice (some ⟨b, off, none⟩) 3 cap] 53)) e0 (by simp; try omega) rfl
  simp only [World.size_alloc] at H
  exact ⟨_, rfl, H, (hB.alloc (by simp; try omega) _)⟩

theorem over_4_0 (s : ByteArray) (a : Option Addr) (cap : Nat) (e0 e1 e2 e3 : Int × Int) (w : World) (h : EndsAt w a [e0, e1, e2, e3]) :
    Calls Try.prog 68 #[.agg #[.int .i64 4, .string s, .slice a 4 cap], .int .i64 0] w fun e w' =>
    ∃ v, e = .returned v ∧ NewEnds w.heap.size w' v [e1] ∧ Below w.heap.size w w' := by
  obtain ⟨b, off, rfl, c00, c01⟩ := h 0 (by simp)
  obtain ⟨b1, off1, hab1, c10, c11⟩ := h 1 (by simp)
  obtain ⟨rfl, rfl⟩ : b = b1 ∧ off = off1 := by simpa using hab1
  clear hab1
  obtain ⟨b2, off2, hab2, c20, c21⟩ := h 2 (by simp)
  obtain ⟨rfl, rfl⟩ : b = b2 ∧ off = off2 := by simpa using hab2
  clear hab2
  obtain ⟨b3, off3, hab3, c30, c31⟩ := h 3 (by simp)
  obtain ⟨rfl, rfl⟩ : b = b3 ∧ off = off3 := by simpa using hab3
  clear hab3
  simp at c00 c01 c10 c11 c20 c21 c30 c31
  have hblt := cell_lt c00
  clear h
  have hB : Below w.heap.size w (w.alloc (.cells #[.int .i64 4, .string s, .slice (some ⟨b, off, none⟩) 4 cap] 53)) := (Below.refl _ _).alloc (Nat.le_refl _) _
  have hx : bits BinOp.xor IntKind.i64 0 1 = 1 := by decide
  go_enter Try.func68, Try.ntmps68
  go_wp2_with fail
  refine (kindOf_4 _).mono ?_
  rintro e w1 ⟨rfl, rfl⟩
  have ht2 := ta_4_2
  have ht3 := ta_4_3
  have ht4 := ta_4_4
  go_wp2_with fail
  go_ret
  have H := newEnds_one (B := w.heap.size) (w.alloc (.cells #[.int .i64 4, .string s, .slice (some ⟨b, off, none⟩) 4 cap] 53)) e1 (by simp; try omega) rfl
  simp only [World.size_alloc] at H
  exact ⟨_, rfl, H, (hB.alloc (by simp; try omega) _)⟩

theorem over_4_1 (s : ByteArray) (a : Option Addr) (cap : Nat) (e0 e1 e2 e3 : Int × Int) (w : World) (h : EndsAt w a [e0, e1, e2, e3]) :
    Calls Try.prog 68 #[.agg #[.int .i64 4, .string s, .slice a 4 cap], .int .i64 1] w fun e w' =>
    ∃ v, e = .returned v ∧ NewEnds w.heap.size w' v [e0] ∧ Below w.heap.size w w' := by
  obtain ⟨b, off, rfl, c00, c01⟩ := h 0 (by simp)
  obtain ⟨b1, off1, hab1, c10, c11⟩ := h 1 (by simp)
  obtain ⟨rfl, rfl⟩ : b = b1 ∧ off = off1 := by simpa using hab1
  clear hab1
  obtain ⟨b2, off2, hab2, c20, c21⟩ := h 2 (by simp)
  obtain ⟨rfl, rfl⟩ : b = b2 ∧ off = off2 := by simpa using hab2
  clear hab2
  obtain ⟨b3, off3, hab3, c30, c31⟩ := h 3 (by simp)
  obtain ⟨rfl, rfl⟩ : b = b3 ∧ off = off3 := by simpa using hab3
  clear hab3
  simp at c00 c01 c10 c11 c20 c21 c30 c31
  have hblt := cell_lt c00
  clear h
  have hB : Below w.heap.size w (w.alloc (.cells #[.int .i64 4, .string s, .slice (some ⟨b, off, none⟩) 4 cap] 53)) := (Below.refl _ _).alloc (Nat.le_refl _) _
  have hx : bits BinOp.xor IntKind.i64 1 1 = 0 := by decide
  go_enter Try.func68, Try.ntmps68
  go_wp2_with fail
  refine (kindOf_4 _).mono ?_
  rintro e w1 ⟨rfl, rfl⟩
  have ht2 := ta_4_2
  have ht3 := ta_4_3
  have ht4 := ta_4_4
  go_wp2_with fail
  go_ret
  have H := newEnds_one (B := w.heap.size) (w.alloc (.cells #[.int .i64 4, .string s, .slice (some ⟨b, off, none⟩) 4 cap] 53)) e0 (by simp; try omega) rfl
  simp only [World.size_alloc] at H
  exact ⟨_, rfl, H, (hB.alloc (by simp; try omega) _)⟩

theorem over_4_2 (s : ByteArray) (a : Option Addr) (cap : Nat) (e0 e1 e2 e3 : Int × Int) (w : World) (h : EndsAt w a [e0, e1, e2, e3]) :
    Calls Try.prog 68 #[.agg #[.int .i64 4, .string s, .slice a 4 cap], .int .i64 2] w fun e w' =>
    ∃ v, e = .returned v ∧ NewEnds w.heap.size w' v [e3] ∧ Below w.heap.size w w' := by
  obtain ⟨b, off, rfl, c00, c01⟩ := h 0 (by simp)
  obtain ⟨b1, off1, hab1, c10, c11⟩ := h 1 (by simp)
  obtain ⟨rfl, rfl⟩ : b = b1 ∧ off = off1 := by simpa using hab1
  clear hab1
  obtain ⟨b2, off2, hab2, c20, c21⟩ := h 2 (by simp)
  obtain ⟨rfl, rfl⟩ : b = b2 ∧ off = off2 := by simpa using hab2
  clear hab2
  obtain ⟨b3, off3, hab3, c30, c31⟩ := h 3 (by simp)
  obtain ⟨rfl, rfl⟩ : b = b3 ∧ off = off3 := by simpa using hab3
  clear hab3
  simp at c00 c01 c10 c11 c20 c21 c30 c31
  have hblt := cell_lt c00
  clear h
  have hB : Below w.heap.size w (w.alloc (.cells #[.int .i64 4, .string s, .slice (some ⟨b, off, none⟩) 4 cap] 53)) := (Below.refl _ _).alloc (Nat.le_refl _) _
  have hx : bits BinOp.xor IntKind.i64 2 1 = 3 := by decide
  go_enter Try.func68, Try.ntmps68
  go_wp2_with fail
  refine (kindOf_4 _).mono ?_
  rintro e w1 ⟨rfl, rfl⟩
  have ht2 := ta_4_2
  have ht3 := ta_4_3
  have ht4 := ta_4_4
  go_wp2_with fail
  go_ret
  have H := newEnds_one (B := w.heap.size) (w.alloc (.cells #[.int .i64 4, .string s, .slice (some ⟨b, off, none⟩) 4 cap] 53)) e3 (by simp; try omega) rfl
  simp only [World.size_alloc] at H
  exact ⟨_, rfl, H, (hB.alloc (by simp; try omega) _)⟩

theorem over_4_3 (s : ByteArray) (a : Option Addr) (cap : Nat) (e0 e1 e2 e3 : Int × Int) (w : World) (h : EndsAt w a [e0, e1, e2, e3]) :
    Calls Try.prog 68 #[.agg #[.int .i64 4, .string s, .slice a 4 cap], .int .i64 3] w fun e w' =>
    ∃ v, e = .returned v ∧ NewEnds w.heap.size w' v [e2] ∧ Below w.heap.size w w' := by
  obtain ⟨b, off, rfl, c00, c01⟩ := h 0 (by simp)
  obtain ⟨b1, off1, hab1, c10, c11⟩ := h 1 (by simp)
  obtain ⟨rfl, rfl⟩ : b = b1 ∧ off = off1 := by simpa using hab1
  clear hab1
  obtain ⟨b2, off2, hab2, c20, c21⟩ := h 2 (by simp)
  obtain ⟨rfl, rfl⟩ : b = b2 ∧ off = off2 := by simpa using hab2
  clear hab2
  obtain ⟨b3, off3, hab3, c30, c31⟩ := h 3 (by simp)
  obtain ⟨rfl, rfl⟩ : b = b3 ∧ off = off3 := by simpa using hab3
  clear hab3
  simp at c00 c01 c10 c11 c20 c21 c30 c31
  have hblt := cell_lt c00
  clear h
  have hB : Below w.heap.size w (w.alloc (.cells #[.int .i64 4, .string s, .slice (some ⟨b, off, none⟩) 4 cap] 53)) := (Below.refl _ _).alloc (Nat.le_refl _) _
  have hx : bits BinOp.xor IntKind.i64 3 1 = 2 := by decide
  go_enter Try.func68, Try.ntmps68
  go_wp2_with fail
  refine (kindOf_4 _).mono ?_
  rintro e w1 ⟨rfl, rfl⟩
  have ht2 := ta_4_2
  have ht3 := ta_4_3
  have ht4 := ta_4_4
  go_wp2_with fail
  go_ret
  have H := newEnds_one (B := w.heap.size) (w.alloc (.cells #[.int .i64 4, .string s, .slice (some ⟨b, off, none⟩) 4 cap] 53)) e2 (by simp; try omega) rfl
  simp only [World.size_alloc] at H
  exact ⟨_, rfl, H, (hB.alloc (by simp; try omega) _)⟩
end Go.Proofs.Yteapmddadieohaa

import Derived.Test.YtldafgbhjpfboaaGreatMxAF
import Derived.Test.YtldafgbhjpfboaaGreatMxAB
import Derived.Test.YtldafgbhjpfboaaGreatMxAG
import Derived.Test.YtldafgbhjpfboaaGreatDrS
import Derived.Test.YtldafgbhjpfboaaGreatTo
namespace Go.Proofs.YtldafgbhjpfboaaGreat
open Go.RowKit
set_option maxHeartbeats 1000000

theorem ta_1_2 (w : World) : (Instr.typeAssert (.iface 167 (.agg #[])) 156 159 true).run Tryz.prog w = .ok (.tuple #[.agg #[], .bool false]) w := by kernel_rfl
theorem ta_1_3 (w : World) : (Instr.typeAssert (.iface 167 (.agg #[])) 156 160 true).run Tryz.prog w = .ok (.tuple #[.agg #[], .bool false]) w := by kernel_rfl
theorem ta_1_4 (w : World) : (Instr.typeAssert (.iface 167 (.agg #[])) 156 161 true).run Tryz.prog w = .ok (.tuple #[.agg #[], .bool false]) w := by kernel_rfl
theorem ta_2_2 (w : World) : (Instr.typeAssert (.iface 159 (.agg #[])) 156 159 true).run Tryz.prog w = .ok (.tuple #[.agg #[], .bool true]) w := by kernel_rfl
theorem ta_2_3 (w : World) : (Instr.typeAssert (.iface 159 (.agg #[])) 156 160 true).run Tryz.prog w = .ok (.tuple #[.agg #[], .bool false]) w := by kernel_rfl
theorem ta_2_4 (w : World) : (Instr.typeAssert (.iface 159 (.agg #[])) 156 161 true).run Tryz.prog w = .ok (.tuple #[.agg #[], .bool false]) w := by kernel_rfl
theorem ta_3_2 (w : World) : (Instr.typeAssert (.iface 160 (.agg #[])) 156 159 true).run Tryz.prog w = .ok (.tuple #[.agg #[], .bool false]) w := by kernel_rfl
theorem ta_3_3 (w : World) : (Instr.typeAssert (.iface 160 (.agg #[])) 156 160 true).run Tryz.prog w = .ok (.tuple #[.agg #[], .bool true]) w := by kernel_rfl
theorem ta_3_4 (w : World) : (Instr.typeAssert (.iface 160 (.agg #[])) 156 161 true).run Tryz.prog w = .ok (.tuple #[.agg #[], .bool false]) w := by kernel_rfl
theorem ta_4_2 (w : World) : (Instr.typeAssert (.iface 161 (.agg #[])) 156 159 true).run Tryz.prog w = .ok (.tuple #[.agg #[], .bool false]) w := by kernel_rfl
theorem ta_4_3 (w : World) : (Instr.typeAssert (.iface 161 (.agg #[])) 156 160 true).run Tryz.prog w = .ok (.tuple #[.agg #[], .bool false]) w := by kernel_rfl
theorem ta_4_4 (w : World) : (Instr.typeAssert (.iface 161 (.agg #[])) 156 161 true).run Tryz.prog w = .ok (.tuple #[.agg #[], .bool true]) w := by kernel_rfl

theorem over_1_0 (s : ByteArray) (a : Option Addr) (cap : Nat) (e0 : Int × Int) (w : World) (h : EndsAt w a [e0]) :
    Calls Tryz.prog 76 #[.agg #[.int .i64 1, .string s, .slice a 1 cap], .int .i64 0] w fun e w' =>
    ∃ v, e = .returned v ∧ NewEnds w.heap.size w' v [] ∧ Below w.heap.size w w' := by
  obtain ⟨b, off, rfl, c00, c01⟩ := h 0 (by simp)
  simp at c00 c01
  have hblt := cell_lt c00
  clear h
  have hB : Below w.heap.size w (w.alloc (.cells #[.int .i64 1, .string s, .slice (some ⟨b, off, none⟩) 1 cap] 79)) := (Below.refl _ _).alloc (Nat.le_refl _) _
  go_enter Tryz.func76, Tryz.ntmps76
  go_wp2_with fail
  refine (kindOf_1 _).mono ?_
  rintro e w1 ⟨rfl, rfl⟩
  have ht2 := ta_1_2
  have ht3 := ta_1_3
  have ht4 := ta_1_4
  go_wp2_with fail
  go_ret
  exact ⟨_, rfl, newEnds_nil _ _, hB⟩

theorem over_2_0 (s : ByteArray) (a : Option Addr) (cap : Nat) (e0 e1 : Int × Int) (w : World) (h : EndsAt w a [e0, e1]) :
    Calls Tryz.prog 76 #[.agg #[.int .i64 2, .string s, .slice a 2 cap], .int .i64 0] w fun e w' =>
    ∃ v, e = .returned v ∧ NewEnds w.heap.size w' v [e1] ∧ Below w.heap.size w w' := by
  obtain ⟨b, off, rfl, c00, c01⟩ := h 0 (by simp)
  obtain ⟨b1, off1, hab1, c10, c11⟩ := h 1 (by simp)
  obtain ⟨rfl, rfl⟩ : b = b1 ∧ off = off1 := by simpa using hab1
  clear hab1
  simp at c00 c01 c10 c11
  have hblt := cell_lt c00
  clear h
  have hB : Below w.heap.size w (w.alloc (.cells #[.int .i64 2, .string s, .slice (some ⟨b, off, none⟩) 2 cap] 79)) := (Below.refl _ _).alloc (Nat.le_refl _) _
  go_enter Tryz.func76, Tryz.ntmps76
  go_wp2_with fail
  refine (kindOf_2 _).mono ?_
  rintro e w1 ⟨rfl, rfl⟩
  have ht2 := ta_2_2
  go_wp2_with fail
  go_ret
  have H := newEnds_one (B := w.heap.size) (w.alloc (.cells #[.int .i64 2, .string s, .slice (some ⟨b, off, none⟩) 2 cap] 79)) e1 (by simp; try omega) rfl
  simp only [World.size_alloc] at H
  exact ⟨_, rfl, H, (hB.alloc (by simp; try omega) _)⟩

theorem over_2_1 (s : ByteArray) (a : Option Addr) (cap : Nat) (e0 e1 : Int × Int) (w : World) (h : EndsAt w a [e0, e1]) :
    Calls Tryz.prog 76 #[.agg #[.int .i64 2, .string s, .slice a 2 cap], .int .i64 1] w fun e w' =>
    ∃ v, e = .returned v ∧ NewEnds w.heap.size w' v [e0] ∧ Below w.heap.size w w' := by
  obtain ⟨b, off, rfl, c00, c01⟩ := h 0 (by simp)
  obtain ⟨b1, off1, hab1, c10, c11⟩ := h 1 (by simp)
  obtain ⟨rfl, rfl⟩ : b = b1 ∧ off = off1 := by simpa using hab1
  clear hab1
  simp at c00 c01 c10 c11
  have hblt := cell_lt c00
  clear h
  have hB : Below w.heap.size w (w.alloc (.cells #[.int .i64 2, .string s, .slice (some ⟨b, off, none⟩) 2 cap] 79)) := (Below.refl _ _).alloc (Nat.le_refl _) _
  go_enter Tryz.func76, Tryz.ntmps76
  go_wp2_with fail
  refine (kindOf_2 _).mono ?_
  rintro e w1 ⟨rfl, rfl⟩
  have ht2 := ta_2_2
  go_wp2_with fail
  go_ret
  have H := newEnds_one (B := w.heap.size) (w.alloc (.cells #[.int .i64 2, .string s, .slice (some ⟨b, off, none⟩) 2 cap] 79)) e0 (by simp; try omega) rfl
  simp only [World.size_alloc] at H
  exact ⟨_, rfl, H, (hB.alloc (by simp; try omega) _)⟩

theorem over_3_0 (s : ByteArray) (a : Option Addr) (cap : Nat) (e0 e1 e2 : Int × Int) (w : World) (h : EndsAt w a [e0, e1, e2]) :
    Calls Tryz.prog 76 #[.agg #[.int .i64 3, .string s, .slice a 3 cap], .int .i64 0] w fun e w' =>
    ∃ v, e = .returned v ∧ NewEnds w.heap.size w' v [e1, e2] ∧ Below w.heap.size w w' := by
  obtain ⟨b, off, rfl, c00, c01⟩ := h 0 (by simp)
  obtain ⟨b1, off1, hab1, c10, c11⟩ := h 1 (by simp)
  obtain ⟨rfl, rfl⟩ : b = b1 ∧ off = off1 := by simpa using hab1
  clear hab1
  obtain ⟨b2, off2, hab2, c20, c21⟩ := h 2 (by simp)
  obtain ⟨rfl, rfl⟩ : b = b2 ∧ off = off2 := by simpa using hab2
  clear hab2
  simp at c00 c01 c10 c11 c20 c21
  have hblt := cell_lt c00
  clear h
  have hB : Below w.heap.size w (w.alloc (.cells #[.int .i64 3, .string s, .slice (some ⟨b, off, none⟩) 3 cap] 79)) := (Below.refl _ _).alloc (Nat.le_refl _) _
  go_enter Tryz.func76, Tryz.ntmps76
  go_wp2_with fail
  refine (kindOf_3 _).mono ?_
  rintro e w1 ⟨rfl, rfl⟩
  have ht2 := ta_3_2
  have ht3 := ta_3_3
  go_wp2_with fail
  go_region
  go_wp2_with fail
  go_ret
  have H := newEnds_two (B := w.heap.size) (w.alloc (.cells #[.int .i64 3, .string s, .slice (some ⟨b, off, none⟩) 3 cap] 79)) e1 e2 (by simp; try omega) rfl
  simp only [World.size_alloc] at H
  exact ⟨_, rfl, H.drew, (hB.alloc (by simp; try omega) _).drew⟩

theorem over_3_1 (s : ByteArray) (a : Option Addr) (cap : Nat) (e0 e1 e2 : Int × Int) (w : World) (h : EndsAt w a [e0, e1, e2]) :
    Calls Tryz.prog 76 #[.agg #[.int .i64 3, .string s, .slice a 3 cap], .int .i64 1] w fun e w' =>
    ∃ v, e = .returned v ∧ NewEnds w.heap.size w' v [e0] ∧ Below w.heap.size w w' := by
  obtain ⟨b, off, rfl, c00, c01⟩ := h 0 (by simp)
  obtain ⟨b1, off1, hab1, c10, c11⟩ := h 1 (by simp)
  obtain ⟨rfl, rfl⟩ : b = b1 ∧ off = off1 := by simpa using hab1
  clear hab1
  obtain ⟨b2, off2, hab2, c20, c21⟩ := h 2 (by simp)
  obtain ⟨rfl, rfl⟩ : b = b2 ∧ off = off2 := by simpa using hab2
  clear hab2
  simp at c00 c01 c10 c11 c20 c21
  have hblt := cell_lt c00
  clear h
  have hB : Below w.heap.size w (w.alloc (.cells #[.int .i64 3, .string s, .slice (some ⟨b, off, none⟩) 3 cap] 79)) := (Below.refl _ _).alloc (Nat.le_refl _) _
  go_enter Tryz.func76, Tryz.ntmps76
  go_wp2_with fail
  refine (kindOf_3 _).mono ?_
  rintro e w1 ⟨rfl, rfl⟩
  have ht2 := ta_3_2
  have ht3 := ta_3_3
  go_wp2_with fail
  go_ret
  have H := newEnds_one (B := w.heap.size) (w.alloc (.cells #[.int .i64 3, .string s, .slice (some ⟨b, off, none⟩) 3 cap] 79)) e0 (by simp; try omega) rfl
  simp only [World.size_alloc] at H
  exact ⟨_, rfl, H, (hB.alloc (by simp; try omega) _)⟩

theorem over_3_2 (s : ByteArray) (a : Option Addr) (cap : Nat) (e0 e1 e2 : Int × Int) (w : World) (h : EndsAt w a [e0, e1, e2]) :
    Calls Tryz.prog 76 #[.agg #[.int .i64 3, .string s, .slice a 3 cap], .int .i64 2] w fun e w' =>
    ∃ v, e = .returned v ∧ NewEnds w.heap.size w' v [e0] ∧ Below w.heap.size w w' := by
  obtain ⟨b, off, rfl, c00, c01⟩ := h 0 (by simp)
  obtain ⟨b1, off1, hab1, c10, c11⟩ := h 1 (by simp)
  obtain ⟨rfl, rfl⟩ : b = b1 ∧ off = off1 := by simpa using hab1
  clear hab1
  obtain ⟨b2, off2, hab2, c20, c21⟩ := h 2 (by simp)
  obtain ⟨rfl, rfl⟩ : b = b2 ∧ off = off2 := by simpa using hab2
  clear hab2
  simp at c00 c01 c10 c11 c20 c21
  have hblt := cell_lt c00
  clear h
  have hB : Below w.heap.size w (w.alloc (.cells #[.int .i64 3, .string s, .slice (some ⟨b, off, none⟩) 3 cap] 79)) := (Below.refl _ _).alloc (Nat.le_refl _) _
  go_enter Tryz.func76, Tryz.ntmps76
  go_wp2_with fail
  refine (kindOf_3 _).mono ?_
  rintro e w1 ⟨rfl, rfl⟩
  have ht2 := ta_3_2
  have ht3 := ta_3_3
  go_wp2_with fail
  go_ret
  have H := newEnds_one (B := w.heap.size) (w.alloc (.cells #[.int .i64 3, .string s, .slice (some ⟨b, off, none⟩) 3 cap] 79)) e0 (by simp; try omega) rfl
  simp only [World.size_alloc] at H
  exact ⟨_, rfl, H, (hB.alloc (by simp; try omega) _)⟩

theorem over_4_0 (s : ByteArray) (a : Option Addr) (cap : Nat) (e0 e1 e2 e3 : Int × Int) (w : World) (h : EndsAt w a [e0, e1, e2, e3]) :
    Calls Tryz.prog 76 #[.agg #[.int .i64 4, .string s, .slice a 4 cap], .int .i64 0] w fun e w' =>
    ∃ v, e = .returned v ∧ NewEnds w.heap.size w' v [e1] ∧ Below w.heap.size w w' := by
  obtain ⟨b, off, rfl, c00, c01⟩ := h 0 (by simp)
  obtain ⟨b1, off1, hab1, c10, c11⟩ := h 1 (by simp)
  obtain ⟨rfl, rfl⟩ : b = b1 ∧ off = off1 := by simpa using hab1
  clear hab1
  obtain ⟨b2, off2, hab2, c20, c21⟩ := h 2 (by simp)
  obtain ⟨rfl, rfl⟩ : b = b2 ∧ off = off2 := by simpa using hab2
  clear hab2
  obtain ⟨b3, off3, hab3, c30, c31⟩ := h 3 (by simp)
  obtain ⟨rfl, rfl⟩ : b = b3 ∧ off = off3 := by simpa using hab3
  clear hab3
  simp at c00 c01 c10 c11 c20 c21 c30 c31
  have hblt := cell_lt c00
  clear h
  have hB : Below w.heap.size w (w.alloc (.cells #[.int .i64 4, .string s, .slice (some ⟨b, off, none⟩) 4 cap] 79)) := (Below.refl _ _).alloc (Nat.le_refl _) _
  have hx : bits BinOp.xor IntKind.i64 0 1 = 1 := by decide
  go_enter Tryz.func76, Tryz.ntmps76
  go_wp2_with fail
  refine (kindOf_4 _).mono ?_
  rintro e w1 ⟨rfl, rfl⟩
  have ht2 := ta_4_2
  have ht3 := ta_4_3
  have ht4 := ta_4_4
  go_wp2_with fail
  go_ret
  have H := newEnds_one (B := w.heap.size) (w.alloc (.cells #[.int .i64 4, .string s, .slice (some ⟨b, off, none⟩) 4 cap] 79)) e1 (by simp; try omega) rfl
  simp only [World.size_alloc] at H
  exact ⟨_, rfl, H, (hB.alloc (by simp; try omega) _)⟩

theorem over_4_1 (s : ByteArray) (a : Option Addr) (cap : Nat) (e0 e1 e2 e3 : Int × Int) (w : World) (h : EndsAt w a [e0, e1, e2, e3]) :
    Calls Tryz.prog 76 #[.agg #[.int .i64 4, .string s, .slice a 4 cap], .int .i64 1] w fun e w' =>
    ∃ v, e = .returned v ∧ NewEnds w.heap.size w' v [e0] ∧ Below w.heap.size w w' := by
  obtain ⟨b, off, rfl, c00, c01⟩ := h 0 (by simp)
  obtain ⟨b1, off1, hab1, c10, c11⟩ := h 1 (by simp)
  obtain ⟨rfl, rfl⟩ : b = b1 ∧ off = off1 := by simpa using hab1
  clear hab1
  obtain ⟨b2, off2, hab2, c20, c21⟩ := h 2 (by simp)
  obtain ⟨rfl, rfl⟩ : b = b2 ∧ off = off2 := by simpa using hab2
  clear hab2
  obtain ⟨b3, off3, hab3, c30, c31⟩ := h 3 (by simp)
  obtain ⟨rfl, rfl⟩ : b = b3 ∧ off = off3 := by simpa using hab3
  clear hab3
  simp at c00 c01 c10 c11 c20 c21 c30 c31
  have hblt := cell_lt c00
  clear h
  have hB : Below w.heap.size w (w.alloc (.cells #[.int .i64 4, .string s, .slice (some ⟨b, off, none⟩) 4 cap] 79)) := (Below.refl _ _).alloc (Nat.le_refl _) _
  have hx : bits BinOp.xor IntKind.i64 1 1 = 0 := by decide
  go_enter Tryz.func76, Tryz.ntmps76
  go_wp2_with fail
  refine (kindOf_4 _).mono ?_
  rintro e w1 ⟨rfl, rfl⟩
  have ht2 := ta_4_2
  have ht3 := ta_4_3
  have ht4 := ta_4_4
  go_wp2_with fail
  go_ret
  have H := newEnds_one (B := w.heap.size) (w.alloc (.cells #[.int .i64 4, .string s, .slice (some ⟨b, off, none⟩) 4 cap] 79)) e0 (by simp; try omega) rfl
  simp only [World.size_alloc] at H
  exact ⟨_, rfl, H, (hB.alloc (by simp; try omega) _)⟩

theorem over_4_2 (s : ByteArray) (a : Option Addr) (cap : Nat) (e0 e1 e2 e3 : Int × Int) (w : World) (h : EndsAt w a [e0, e1, e2, e3]) :
    Calls Tryz.prog 76 #[.agg #[.int .i64 4, .string s, .slice a 4 cap], .int .i64 2] w fun e w' =>
    ∃ v, e = .returned v ∧ NewEnds w.heap.size w' v [e3] ∧ Below w.heap.size w w' := by
  obtain ⟨b, off, rfl, c00, c01⟩ := h 0 (by simp)
  obtain ⟨b1, off1, hab1, c10, c11⟩ := h 1 (by simp)
  obtain ⟨rfl, rfl⟩ : b = b1 ∧ off = off1 := by simpa using hab1
  clear hab1
  obtain ⟨b2, off2, hab2, c20, c21⟩ := h 2 (by simp)
  obtain ⟨rfl, rfl⟩ : b = b2 ∧ off = off2 := by simpa using hab2
  clear hab2
  obtain ⟨b3, off3, hab3, c30, c31⟩ := h 3 (by simp)
  obtain ⟨rfl, rfl⟩ : b = b3 ∧ off = off3 := by simpa using hab3
  clear hab3
  simp at c00 c01 c10 c11 c20 c21 c30 c31
  have hblt := cell_lt c00
  clear h
  have hB : Below w.heap.size w (w.alloc (.cells #[.int .i64 4, .string s, .slice (some ⟨b, off, none⟩) 4 cap] 79)) := (Below.refl _ _).alloc (Nat.le_refl _) _
  have hx : bits BinOp.xor IntKind.i64 2 1 = 3 := by decide
  go_enter Tryz.func76, Tryz.ntmps76
  go_wp2_with fail
  refine (kindOf_4 _).mono ?_
  rintro e w1 ⟨rfl, rfl⟩
  have ht2 := ta_4_2
  have ht3 := ta_4_3
  have ht4 := ta_4_4
  go_wp2_with fail
  go_ret
  have H := newEnds_one (B := w.heap.size) (w.alloc (.cells #[.int .i64 4, .string s, .slice (some ⟨b, off, none⟩) 4 cap] 79)) e3 (by simp; try omega) rfl
  simp only [World.size_alloc] at H
  exact ⟨_, rfl, H, (hB.alloc (by simp; try omega) _)⟩

theorem over_4_3 (s : ByteArray) (a : Option Addr) (cap : Nat) (e0 e1 e2 e3 : Int × Int) (w : World) (h : EndsAt w a [e0, e1, e2, e3]) :
    Calls Tryz.prog 76 #[.agg #[.int .i64 4, .string s, .slice a 4 cap], .int .i64 3] w fun e w' =>
    ∃ v, e = .returned v ∧ NewEnds w.heap.size w' v [e2] ∧ Below w.heap.size w w' := by
  obtain ⟨b, off, rfl, c00, c01⟩ := h 0 (by simp)
  obtain ⟨b1, off1, hab1, c10, c11⟩ := h 1 (by simp)
  obtain ⟨rfl, rfl⟩ : b = b1 ∧ off = off1 := by simpa using hab1
  clear hab1
  obtain ⟨b2, off2, hab2, c20, c21⟩ := h 2 (by simp)
  obtain ⟨rfl, rfl⟩ : b = b2 ∧ off = off2 := by simpa using hab2
  clear hab2
  obtain ⟨b3, off3, hab3, c30, c31⟩ := h 3 (by simp)
  obtain ⟨rfl, rfl⟩ : b = b3 ∧ off = off3 := by simpa using hab3
  clear hab3
  simp at c00 c01 c10 c11 c20 c21 c30 c31
  have hblt := cell_lt c00
  clear h
  have hB : Below w.heap.size w (w.alloc (.cells #[.int .i64 4, .string s, .slice (some ⟨b, off, none⟩) 4 cap] 79)) := (Below.refl _ _).alloc (Nat.le_refl _) _
  have hx : bits BinOp.xor IntKind.i64 3 1 = 2 := by decide
  go_enter Tryz.func76, Tryz.ntmps76
  go_wp2_with fail
  refine (kindOf_4 _).mono ?_
  rintro e w1 ⟨rfl, rfl⟩
  have ht2 := ta_4_2
  have ht3 := ta_4_3
  have ht4 := ta_4_4
  go_wp2_with fail
  go_ret
  have H := newEnds_one (B := w.heap.size) (w.alloc (.cells #[.int .i64 4, .string s, .slice (some ⟨b, off, none⟩) 4 cap] 79)) e2 (by simp; try omega) rfl
  simp only [World.size_alloc] at H
  exact ⟨_, rfl, H, (hB.alloc (by simp; try omega) _)⟩
end Go.Proofs.YtldafgbhjpfboaaGreat

/- impl.over, at every right joint. Own work. -/
namespace Go.Proofs.YtldafgbhjpfboaaGreat
open Go.RowKit
set_option maxHeartbeats 1000000

theorem over_any (n : Nat) (j : Jt) (a : Option Addr) (cap i : Nat) (w : World) (h3 : jb3 n j = false) (hi : i < j.ends.length) (h : EndsAt w a j.ends) :
    Calls Tryz.prog 76 #[.agg #[.int .i64 j.kind, .string j.name, .slice a j.ends.length cap], .int .i64 i] w fun e w' =>
    ∃ v, e = .returned v ∧ NewEnds w.heap.size w' v (acr j i) ∧ Below w.heap.size w w' := by
  obtain ⟨hk, hl⟩ := jb3_len h3
  clear h3
  obtain ⟨kind, name, ends⟩ := j
  simp only at hk hl hi h
  have hkk : kind = 1 ∨ kind = 2 ∨ kind = 3 ∨ kind = 4 := by omega
  rcases hkk with rfl | rfl | rfl | rfl
  · match ends, (show ends.length = 1 by omega) with
    | [e0], _ =>
      have hii : i = 0 := by simp at hi; omega
      subst hii
      exact over_1_0 name a cap e0 w h
  · match ends, (show ends.length = 2 by omega) with
    | [e0, e1], _ =>
      have hii : i = 0 ∨ i = 1 := by simp at hi; omega
      rcases hii with rfl | rfl
      · exact over_2_0 name a cap e0 e1 w h
      · exact over_2_1 name a cap e0 e1 w h
  · match ends, (show ends.length = 3 by omega) with
    | [e0, e1, e2], _ =>
      have hii : i = 0 ∨ i = 1 ∨ i = 2 := by simp at hi; omega
      rcases hii with rfl | rfl | rfl
      · exact over_3_0 name a cap e0 e1 e2 w h
      · exact over_3_1 name a cap e0 e1 e2 w h
      · exact over_3_2 name a cap e0 e1 e2 w h
  · match ends, (show ends.length = 4 by omega) with
    | [e0, e1, e2, e3], _ =>
      have hii : i = 0 ∨ i = 1 ∨ i = 2 ∨ i = 3 := by simp at hi; omega
      rcases hii with rfl | rfl | rfl | rfl
      · exact over_4_0 name a cap e0 e1 e2 e3 w h
      · exact over_4_1 name a cap e0 e1 e2 e3 w h
      · exact over_4_2 name a cap e0 e1 e2 e3 w h
      · exact over_4_3 name a cap e0 e1 e2 e3 w h
end Go.Proofs.YtldafgbhjpfboaaGreat

/- The cursor's small methods. Own work. -/
namespace Go.Proofs.YtldafgbhjpfboaaGreat
open Go.RowKit
set_option maxHeartbeats 2000000

theorem room_any (q a wy len : Int) (w : World) (hwy : wy = 1 ∨ wy = -1) (hl : 0 ≤ len ∧ len ≤ 10000000) (ha : 0 ≤ a ∧ a ≤ 10000000) :
    Calls Tryz.prog 70 #[.agg #[.int .i64 q, .int .i64 a, .int .i64 wy], .int .i64 len] w fun e w' => e = .returned (.int .i64 (if wy = 1 then len - a else a)) ∧ Below w.heap.size w w' := by
  obtain ⟨hl0, hl1⟩ := hl
  obtain ⟨ha0, ha1⟩ := ha
  have hbA := (Below.refl w.heap.size w).alloc (Nat.le_refl _) (.cells #[.int .i64 q, .int .i64 a, .int .i64 wy] 29)
  rcases hwy with rfl | rfl
  all_goals
    go_enter Tryz.func70, Tryz.ntmps70
    go_wp2_with fail
    go_ret
    exact ⟨ret_i (by simp), hbA⟩

theorem facing_any (q a wy : Int) (w : World) (hwy : wy = 1 ∨ wy = -1) :
    Calls Tryz.prog 87 #[.agg #[.int .i64 q, .int .i64 a, .int .i64 wy]] w fun e w' => e = .returned (.agg #[.int .i64 (headP q wy).1, .int .i64 (headP q wy).2]) ∧ Below w.heap.size w w' := by
  rcases hwy with rfl | rfl
  · go_enter Tryz.func87, Tryz.ntmps87
    go_wp2_with fail
    exact bodyPost_ret (v := .agg #[.int .i64 q, .int .i64 1]) (by simp [results, Tryz.results87, go_sem]) rfl ⟨rfl, ((Below.refl _ _).alloc (Nat.le_refl _) _).alloc (by simp) _⟩
  · go_enter Tryz.func87, Tryz.ntmps87
    go_wp2_with fail
    exact bodyPost_ret (v := .agg #[.int .i64 q, .int .i64 0]) (by simp [results, Tryz.results87, go_sem]) rfl ⟨rfl, ((Below.refl _ _).alloc (Nat.le_refl _) _).alloc (by simp) _⟩

theorem halt_any (p : Value) (x y z : Int) (w : World) :
    Calls Tryz.prog 96 #[p, .agg #[.int .i64 x, .int .i64 y, .int .i64 z]] w fun e w' => e = .returned (.tuple #[.agg #[.int .i64 0, .int .i64 0], .int .i64 1]) ∧ Below w.heap.size w w' := by
  go_enter Tryz.func96, Tryz.ntmps96
  go_wp2_with fail
  refine bodyPost_ret (v := .tuple #[.agg #[.int .i64 0, .int .i64 0], .int .i64 1]) (by simp [results, Tryz.results96, go_sem]) rfl ⟨rfl, ?_⟩
  repeat (first | exact ((Below.refl _ _).alloc (Nat.le_refl _) _).alloc (by simp) _ | refine Below.setCell ?_ (by simp) _)

/-- The method value for a kind. -/
def passV (k : Int) (p : Value) : Value := if k = 1 then .func (.func 96) #[p] #[] else if k = 3 then .func (.func 97) #[p] #[] else .func (.func 98) #[p] #[]
/-- The interface value for a kind. -/
def kindV (k : Int) : Value := if k = 1 then .iface 167 (.agg #[]) else if k = 2 then .iface 159 (.agg #[]) else if k = 3 then .iface 160 (.agg #[]) else .iface 161 (.agg #[])
theorem kindOf_any (k : Int) (h : 1 ≤ k ∧ k ≤ 4) (w : World) : Calls Tryz.prog 92 #[.int .i64 k] w fun e w' => e = .returned (kindV k) ∧ w = w' := by
  have hk : k = 1 ∨ k = 2 ∨ k = 3 ∨ k = 4 := by omega
  rcases hk with rfl | rfl | rfl | rfl
  · exact kindOf_1 w
  · exact kindOf_2 w
  · exact kindOf_3 w
  · exact kindOf_4 w

theorem tb_1 (w : World) : (Instr.typeAssert (.iface 167 (.agg #[])) 156 167 true).run Tryz.prog w = .ok (.tuple #[.agg #[], .bool true]) w := by kernel_rfl
theorem tb_2 (w : World) : (Instr.typeAssert (.iface 159 (.agg #[])) 156 167 true).run Tryz.prog w = .ok (.tuple #[.agg #[], .bool false]) w := by kernel_rfl
theorem tb_3 (w : World) : (Instr.typeAssert (.iface 160 (.agg #[])) 156 167 true).run Tryz.prog w = .ok (.tuple #[.agg #[], .bool false]) w := by kernel_rfl
theorem tb_4 (w : World) : (Instr.typeAssert (.iface 161 (.agg #[])) 156 167 true).run Tryz.prog w = .ok (.tuple #[.agg #[], .bool false]) w := by kernel_rfl

theorem passing_1 (p : Value) (w : World) : Calls Tryz.prog 93 #[p, .iface 167 (.agg #[])] w fun e w' => e = .returned (.func (.func 96) #[p] #[]) ∧ w = w' := by
  have hmf : ∀ (fn : Fn) (first cap : Array Value) (w : World), (Instr.makeFunc fn first cap).run Tryz.prog w = .ok (.func fn first cap) w := fun _ _ _ _ => rfl
  have h1 := tb_1
  go_enter Tryz.func93, Tryz.ntmps93
  go_wp2_with fail
  go_ret
  exact ⟨rfl, rfl⟩
theorem passing_2 (p : Value) (w : World) : Calls Tryz.prog 93 #[p, .iface 159 (.agg #[])] w fun e w' => e = .returned (.func (.func 98) #[p] #[]) ∧ w = w' := by
  have hmf : ∀ (fn : Fn) (first cap : Array Value) (w : World), (Instr.makeFunc fn first cap).run Tryz.prog w = .ok (.func fn first cap) w := fun _ _ _ _ => rfl
  have h1 := tb_2
  have h3 := ta_2_3
  go_enter Tryz.func93, Tryz.ntmps93
  go_wp2_with fail
  go_ret
  exact ⟨rfl, rfl⟩
theorem passing_3 (p : Value) (w : World) : Calls Tryz.prog 93 #[p, .iface 160 (.agg #[])] w fun e w' => e = .returned (.func (.func 97) #[p] #[]) ∧ w = w' := by
  have hmf : ∀ (fn : Fn) (first cap : Array Value) (w : World), (Instr.makeFunc fn first cap).run Tryz.prog w = .ok (.func fn first cap) w := fun _ _ _ _ => rfl
  have h1 := tb_3
  have h3 := ta_3_3
  go_enter Tryz.func93, Tryz.ntmps93
  go_wp2_with fail
  go_ret
  exact ⟨rfl, rfl⟩
theorem passing_4 (p : Value) (w : World) : Calls Tryz.prog 93 #[p, .iface 161 (.agg #[])] w fun e w' => e = .returned (.func (.func 98) #[p] #[]) ∧ w = w' := by
  have hmf : ∀ (fn : Fn) (first cap : Array Value) (w : World), (Instr.makeFunc fn first cap).run Tryz.prog w = .ok (.func fn first cap) w := fun _ _ _ _ => rfl
  have h1 := tb_4
  have h3 := ta_4_3
  go_enter Tryz.func93, Tryz.ntmps93
  go_wp2_with fail
  go_ret
  exact ⟨rfl, rfl⟩
theorem passing_any (k : Int) (h : 1 ≤ k ∧ k ≤ 4) (p : Value) (w : World) : Calls Tryz.prog 93 #[p, kindV k] w fun e w' => e = .returned (passV k p) ∧ w = w' := by
  have hk : k = 1 ∨ k = 2 ∨ k = 3 ∨ k = 4 := by omega
  rcases hk with rfl | rfl | rfl | rfl
  · exact passing_1 p w
  · exact passing_2 p w
  · exact passing_3 p w
  · exact passing_4 p w
end Go.Proofs.YtldafgbhjpfboaaGreat

namespace Go.Proofs.YtldafgbhjpfboaaGreat
open Go.RowKit
set_option maxHeartbeats 2000000

end Go.Proofs.YtldafgbhjpfboaaGreat

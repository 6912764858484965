import Derived.Test.YteapmddadieohaaTo
import Derived.Test.YteapmddadieohaaMxAE
import Derived.Test.YteapmddadieohaaMxAF
namespace Go.Proofs.Yteapmddadieohaa
open Go.RowKit
set_option maxHeartbeats 1000000

/-- The ends over a joint, by the place. -/
def acr (j : Jt) (i : Nat) : List (Int × Int) :=
  if j.kind = 2 then (j.ends[1 - i]?).toList
  else if j.kind = 3 then (if i = 0 then (j.ends[1]?).toList ++ (j.ends[2]?).toList else (j.ends[0]?).toList)
  else if j.kind = 4 then (j.ends[(if i = 0 then 1 else if i = 1 then 0 else if i = 2 then 3 else 2)]?).toList
  else []

/-- A new list of ends. -/
def NewEnds (B : Nat) (w : World) (v : Value) (l : List (Int × Int)) : Prop :=
  ∃ a cap, v = .slice a l.length cap ∧ EndsAt w a l ∧ (l.length = 0 ∨ ∃ b, B ≤ b ∧ a = some ⟨b, 0, none⟩ ∧ Row w b 59 (l.length * 2))

theorem NewEnds.drew {B : Nat} {w : World} {v : Value} {l} (h : NewEnds B w v l) : NewEnds B w.drew v l := h

theorem newEnds_nil (B : Nat) (w : World) : NewEnds B w (.slice none 0 0) [] := ⟨none, 0, rfl, fun k hk => by simp at hk, Or.inl rfl⟩

theorem newEnds_one {B : Nat} {w : World} (W : World) (e : Int × Int) (hB : B ≤ W.heap.size) (hw : w = W.alloc (.cells #[.int .i64 e.1, .int .i64 e.2] 59)) : NewEnds B w (.slice (some ⟨W.heap.size, 0, none⟩) 1 1) [e] := by
  subst hw
  refine ⟨_, 1, rfl, ?_, Or.inr ⟨_, hB, rfl, ⟨fun i => if i = 0 then .int .i64 e.1 else .int .i64 e.2, ?_⟩⟩⟩
  · intro k hk
    have : k = 0 := by simpa using hk
    subst this
    exact ⟨_, 0, rfl, new_cell W _ _ 0 _ rfl, new_cell W _ _ 1 _ rfl⟩
  · have h := World.rowIs_alloc W #[.int .i64 e.1, .int .i64 e.2] 59 (fun i => if i = 0 then .int .i64 e.1 else .int .i64 e.2) (by
      intro i hi
      have : i = 0 ∨ i = 1 := by simp at hi; omega
      rcases this with rfl | rfl <;> rfl)
    exact h

theorem newEnds_two {B : Nat} {w : World} (W : World) (e f : Int × Int) (hB : B ≤ W.heap.size) (hw : w = W.alloc (.cells #[.int .i64 e.1, .int .i64 e.2, .int .i64 f.1, .int .i64 f.2] 59)) : NewEnds B w (.slice (some ⟨W.heap.size, 0, none⟩) 2 2) [e, f] := by
  subst hw
  refine ⟨_, 2, rfl, ?_, Or.inr ⟨_, hB, rfl, ⟨fun i => if i = 0 then .int .i64 e.1 else if i = 1 then .int .i64 e.2 else if i = 2 then .int .i64 f.1 else .int .i64 f.2, ?_⟩⟩⟩
  · intro k hk
    have : k = 0 ∨ k = 1 := by simp at hk; omega
    rcases this with rfl | rfl
    · exact ⟨_, 0, rfl, new_cell W _ _ 0 _ rfl, new_cell W _ _ 1 _ rfl⟩
    · exact ⟨_, 0, rfl, new_cell W _ _ 2 _ rfl, new_cell W _ _ 3 _ rfl⟩
  · have h := World.rowIs_alloc W #[.int .i64 e.1, .int .i64 e.2, .int .i64 f.1, .int .i64 f.2] 59 (fun i => if i = 0 then .int .i64 e.1 else if i = 1 then .int .i64 e.2 else if i = 2 then .int .i64 f.1 else .int .i64 f.2) (by
      intro i hi
      have : i = 0 ∨ i = 1 ∨ i = 2 ∨ i = 3 := by simp at hi; omega
      rcases this with rfl | rfl | rfl | rfl <;> rfl)
    exact h

theorem l1across_1_0 (s : ByteArray) (a : Option Addr) (cap : Nat) (e0 : Int × Int) (w : World) (h : EndsAt w a [e0]) :
    Calls Try.prog 46 #[.agg #[.int .i64 1, .string s, .slice a 1 cap], .int .i64 0] w fun e w' =>
    ∃ v, e = .returned v ∧ NewEnds w.heap.size w' v [] ∧ Below w.heap.size w w' := by
  obtain ⟨b, off, rfl, c00, c01⟩ := h 0 (by simp)
  simp at c00 c01
  have hblt := cell_lt c00
  clear h
  have hB : Below w.heap.size w (w.alloc (.cells #[.int .i64 1, .string s, .slice (some ⟨b, off, none⟩) 1 cap] 53)) := (Below.refl _ _).alloc (Nat.le_refl _) _
  go_enter Try.func46, Try.ntmps46
  go_wp2_with fail
  go_ret
  exact ⟨_, rfl, newEnds_nil _ _, hB⟩

theorem l1across_2_0 (s : ByteArray) (a : Option Addr) (cap : Nat) (e0 e1 : Int × Int) (w : World) (h : EndsAt w a [e0, e1]) :
    Calls Try.prog 46 #[.agg #[.int .i64 2, .string s, .slice a 2 cap], .int .i64 0] w fun e w' =>
    ∃ v, e = .returned v ∧ NewEnds w.heap.size w' v [e1] ∧ Below w.heap.size w w' := by
  obtain ⟨b, off, rfl, c00, c01⟩ := h 0 (by simp)
  obtain ⟨b1, off1, hab1, c10, c11⟩ := h 1 (by simp)
  obtain ⟨rfl, rfl⟩ : b = b1 ∧ off = off1 := by simpa using hab1
  clear hab1
  simp at c00 c01 c10 c11
  have hblt := cell_lt c00
  clear h
  have hB : Below w.heap.size w (w.alloc (.cells #[.int .i64 2, .string s, .slice (some ⟨b, off, none⟩) 2 cap] 53)) := (Below.refl _ _).alloc (Nat.le_refl _) _
  go_enter Try.func46, Try.ntmps46
  go_wp2_with fail
  go_ret
  have H := newEnds_one (B := w.heap.size) (w.alloc (.cells #[.int .i64 2, .string s, .slice (some ⟨b, off, none⟩) 2 cap] 53)) e1 (by simp; try omega) rfl
  simp only [World.size_alloc] at H
  exact ⟨_, rfl, H, (hB.alloc (by simp; try omega) _)⟩

theorem l1across_2_1 (s : ByteArray) (a : Option Addr) (cap : Nat) (e0 e1 : Int × Int) (w : World) (h : EndsAt w a [e0, e1]) :
    Calls Try.prog 46 #[.agg #[.int .i64 2, .string s, .slice a 2 cap], .int .i64 1] w fun e w' =>
    ∃ v, e = .returned v ∧ NewEnds w.heap.size w' v [e0] ∧ Below w.heap.size w w' := by
  obtain ⟨b, off, rfl, c00, c01⟩ := h 0 (by simp)
  obtain ⟨b1, off1, hab1, c10, c11⟩ := h 1 (by simp)
  obtain ⟨rfl, rfl⟩ : b = b1 ∧ off = off1 := by simpa using hab1
  clear hab1
  simp at c00 c01 c10 c11
  have hblt := cell_lt c00
  clear h
  have hB : Below w.heap.size w (w.alloc (.cells #[.int .i64 2, .string s, .slice (some ⟨b, off, none⟩) 2 cap] 53)) := (Below.refl _ _).alloc (Nat.le_refl _) _
  go_enter Try.func46, Try.ntmps46
  go_wp2_with fail
  go_ret
  have H := newEnds_one (B := w.heap.size) (w.alloc (.cells #[.int .i64 2, .string s, .slice (some ⟨b, off, none⟩) 2 cap] 53)) e0 (by simp; try omega) rfl
  simp only [World.size_alloc] at H
  exact ⟨_, rfl, H, (hB.alloc (by simp; try omega) _)⟩

theorem l1across_3_0 (s : ByteArray) (a : Option Addr) (cap : Nat) (e0 e1 e2 : Int × Int) (w : World) (h : EndsAt w a [e0, e1, e2]) :
    Calls Try.prog 46 #[.agg #[.int .i64 3, .string s, .slice a 3 cap], .int .i64 0] w fun e w' =>
    ∃ v, e = .returned v ∧ NewEnds w.heap.size w' v [e1, e2] ∧ Below w.heap.size w w' := by
  obtain ⟨b, off, rfl, c00, c01⟩ := h 0 (by simp)
  obtain ⟨b1, off1, hab1, c10, c11⟩ := h 1 (by simp)
  obtain ⟨rfl, rfl⟩ : b = b1 ∧ off = off1 := by simpa using hab1
  clear hab1
  obtain ⟨b2, off2, hab2, c20, c21⟩ := h 2 (by simp)
  obtain ⟨rfl, rfl⟩ : b = b2 ∧ off = off2 := by simpa using hab2
  clear hab2
  simp at c00 c01 c10 c11 c20 c21
  have hblt := cell_lt c00
  clear h
  have hB : Below w.heap.size w (w.alloc (.cells #[.int .i64 3, .string s, .slice (some ⟨b, off, none⟩) 3 cap] 53)) := (Below.refl _ _).alloc (Nat.le_refl _) _
  go_enter Try.func46, Try.ntmps46
  go_wp2_with fail
  go_region
  go_wp2_with fail
  go_ret
  have H := newEnds_two (B := w.heap.size) (w.alloc (.cells #[.int .i64 3, .string s, .slice (some ⟨b, off, none⟩) 3 cap] 53)) e1 e2 (by simp; try omega) rfl
  simp only [World.size_alloc] at H
  exact ⟨_, rfl, H.drew, (hB.alloc (by simp; try omega) _).drew⟩

theorem l1across_3_1 (s : ByteArray) (a : Option Addr) (cap : Nat) (e0 e1 e2 : Int × Int) (w : World) (h : EndsAt w a [e0, e1, e2]) :
    Calls Try.prog 46 #[.agg #[.int .i64 3, .string s, .slice a 3 cap], .int .i64 1] w fun e w' =>
    ∃ v, e = .returned v ∧ NewEnds w.heap.size w' v [e0] ∧ Below w.heap.size w w' := by
  obtain ⟨b, off, rfl, c00, c01⟩ := h 0 (by simp)
  obtain ⟨b1, off1, hab1, c10, c11⟩ := h 1 (by simp)
  obtain ⟨rfl, rfl⟩ : b = b1 ∧ off = off1 := by simpa using hab1
  clear hab1
  obtain ⟨b2, off2, hab2, c20, c21⟩ := h 2 (by simp)
  obtain ⟨rfl, rfl⟩ : b = b2 ∧ off = off2 := by simpa using hab2
  clear hab2
  simp at c00 c01 c10 c11 c20 c21
  have hblt := cell_lt c00
  clear h
  have hB : Below w.heap.size w (w.alloc (.cells #[.int .i64 3, .string s, .slice (some ⟨b, off, none⟩) 3 cap] 53)) := (Below.refl _ _).alloc (Nat.le_refl _) _
  go_enter Try.func46, Try.ntmps46
  go_wp2_with fail
  go_ret
  have H := newEnds_one (B := w.heap.size) (w.alloc (.cells #[.int .i64 3, .string s, .slice (some ⟨b, off, none⟩) 3 cap] 53)) e0 (by simp; try omega) rfl
  simp only [World.size_alloc] at H
  exact ⟨_, rfl, H, (hB.alloc (by simp; try omega) _)⟩

theorem l1across_3_2 (s : ByteArray) (a : Option Addr) (cap : Nat) (e0 e1 e2 : Int × Int) (w : World) (h : EndsAt w a [e0, e1, e2]) :
    Calls Try.prog 46 #[.agg #[.int .i64 3, .string s, .slice a 3 cap], .int .i64 2] w fun e w' =>
    ∃ v, e = .returned v ∧ NewEnds w.heap.size w' v [e0] ∧ Below w.heap.size w w' := by
  obtain ⟨b, off, rfl, c00, c01⟩ := h 0 (by simp)
  obtain ⟨b1, off1, hab1, c10, c11⟩ := h 1 (by simp)
  obtain ⟨rfl, rfl⟩ : b = b1 ∧ off = off1 := by simpa using hab1
  clear hab1
  obtain ⟨b2, off2, hab2, c20, c21⟩ := h 2 (by simp)
  obtain ⟨rfl, rfl⟩ : b = b2 ∧ off = off2 := by simpa using hab2
  clear hab2
  simp at c00 c01 c10 c11 c20 c21
  have hblt := cell_lt c00
  clear h
  have hB : Below w.heap.size w (w.alloc (.cells #[.int .i64 3, .string s, .slice (some ⟨b, off, none⟩) 3 cap] 53)) := (Below.refl _ _).alloc (Nat.le_refl _) _
  go_enter Try.func46, Try.ntmps46
  go_wp2_with fail
  go_ret
  have H := newEnds_one (B := w.heap.size) (w.alloc (.cells #[.int .i64 3, .string s, .slice (some ⟨b, off, none⟩) 3 cap] 53)) e0 (by simp; try omega) rfl
  simp only [World.size_alloc] at H
  exact ⟨_, rfl, H, (hB.alloc (by simp; try omega) _)⟩

theorem l1across_4_0 (s : ByteArray) (a : Option Addr) (cap : Nat) (e0 e1 e2 e3 : Int × Int) (w : World) (h : EndsAt w a [e0, e1, e2, e3]) :
    Calls Try.prog 46 #[.agg #[.int .i64 4, .string s, .slice a 4 cap], .int .i64 0] w fun e w' =>
    ∃ v, e = .returned v ∧ NewEnds w.heap.size w' v [e1] ∧ Below w.heap.size w w' := by
  obtain ⟨b, off, rfl, c00, c01⟩ := h 0 (by simp)
  obtain ⟨b1, off1, hab1, c10, c11⟩ := h 1 (by simp)
  obtain ⟨rfl, rfl⟩ : b = b1 ∧ off = off1 := by simpa using hab1
  clear hab1
  obtain ⟨b2, off2, hab2, c20, c21⟩ := h 2 (by simp)
  obtain ⟨rfl, rfl⟩ : b = b2 ∧ off = off2 := by simpa using hab2
  clear hab2
  obtain ⟨b3, off3, hab3, c30, c31⟩ := h 3 (by simp)
  obtain ⟨rfl, rfl⟩ : b = b3 ∧ off = off3 := by simpa using hab3
  clear hab3
  simp at c00 c01 c10 c11 c20 c21 c30 c31
  have hblt := cell_lt c00
  clear h
  have hB : Below w.heap.size w (w.alloc (.cells #[.int .i64 4, .string s, .slice (some ⟨b, off, none⟩) 4 cap] 53)) := (Below.refl _ _).alloc (Nat.le_refl _) _
  have hB2 : Below w.heap.size w ((w.alloc (.cells #[.int .i64 4, .string s, .slice (some ⟨b, off, none⟩) 4 cap] 53)).alloc (.cells #[.int .i64 1, .int .i64 0, .int .i64 3, .int .i64 2] 3)) := hB.alloc (by simp) _
  go_enter Try.func46, Try.ntmps46
  go_wp2_with fail
  go_region
  go_wp2_with fail
  go_ret
  have H := newEnds_one (B := w.heap.size) ((w.alloc (.cells #[.int .i64 4, .string s, .slice (some ⟨b, off, none⟩) 4 cap] 53)).alloc (.cells #[.int .i64 1, .int .i64 0, .int .i64 3, .int .i64 2] 3)) e1 (by simp; try omega) rfl
  simp only [World.size_alloc] at H
  exact ⟨_, rfl, H.drew, (hB2.alloc (by simp; try omega) _).drew⟩

theorem l1across_4_1 (s : ByteArray) (a : Option Addr) (cap : Nat) (e0 e1 e2 e3 : Int × Int) (w : World) (h : EndsAt w a [e0, e1, e2, e3]) :
    Calls Try.prog 46 #[.agg #[.int .i64 4, .string s, .slice a 4 cap], .int .i64 1] w fun e w' =>
    ∃ v, e = .returned v ∧ NewEnds w.heap.size w' v [e0] ∧ Below w.heap.size w w' := by
  obtain ⟨b, off, rfl, c00, c01⟩ := h 0 (by simp)
  obtain ⟨b1, off1, hab1, c10, c11⟩ := h 1 (by simp)
  obtain ⟨rfl, rfl⟩ : b = b1 ∧ off = off1 := by simpa using hab1
  clear hab1
  obtain ⟨b2, off2, hab2, c20, c21⟩ := h 2 (by simp)
  obtain ⟨rfl, rfl⟩ : b = b2 ∧ off = off2 := by simpa using hab2
  clear hab2
  obtain ⟨b3, off3, hab3, c30, c31⟩ := h 3 (by simp)
  obtain ⟨rfl, rfl⟩ : b = b3 ∧ off = off3 := by simpa using hab3
  clear hab3
  simp at c00 c01 c10 c11 c20 c21 c30 c31
  have hblt := cell_lt c00
  clear h
  have hB : Below w.heap.size w (w.alloc (.cells #[.int .i64 4, .string s, .slice (some ⟨b, off, none⟩) 4 cap] 53)) := (Below.refl _ _).alloc (Nat.le_refl _) _
  have hB2 : Below w.heap.size w ((w.alloc (.cells #[.int .i64 4, .string s, .slice (some ⟨b, off, none⟩) 4 cap] 53)).alloc (.cells #[.int .i64 1, .int .i64 0, .int .i64 3, .int .i64 2] 3)) := hB.alloc (by simp) _
  go_enter Try.func46, Try.ntmps46
  go_wp2_with fail
  go_region
  go_wp2_with fail
  go_ret
  have H := newEnds_one (B := w.heap.size) ((w.alloc (.cells #[.int .i64 4, .string s, .slice (some ⟨b, off, none⟩) 4 cap] 53)).alloc (.cells #[.int .i64 1, .int .i64 0, .int .i64 3, .int .i64 2] 3)) e0 (by simp; try omega) rfl
  simp only [World.size_alloc] at H
  exact ⟨_, rfl, H.drew, (hB2.alloc (by simp; try omega) _).drew⟩

theorem l1across_4_2 (s : ByteArray) (a : Option Addr) (cap : Nat) (e0 e1 e2 e3 : Int × Int) (w : World) (h : EndsAt w a [e0, e1, e2, e3]) :
    Calls Try.prog 46 #[.agg #[.int .i64 4, .string s, .slice a 4 cap], .int .i64 2] w fun e w' =>
    ∃ v, e = .returned v ∧ NewEnds w.heap.size w' v [e3] ∧ Below w.heap.size w w' := by
  obtain ⟨b, off, rfl, c00, c01⟩ := h 0 (by simp)
  obtain ⟨b1, off1, hab1, c10, c11⟩ := h 1 (by simp)
  obtain ⟨rfl, rfl⟩ : b = b1 ∧ off = off1 := by simpa using hab1
  clear hab1
  obtain ⟨b2, off2, hab2, c20, c21⟩ := h 2 (by simp)
  obtain ⟨rfl, rfl⟩ : b = b2 ∧ off = off2 := by simpa using hab2
  clear hab2
  obtain ⟨b3, off3, hab3, c30, c31⟩ := h 3 (by simp)
  obtain ⟨rfl, rfl⟩ : b = b3 ∧ off = off3 := by simpa using hab3
  clear hab3
  simp at c00 c01 c10 c11 c20 c21 c30 c31
  have hblt := cell_lt c00
  clear h
  have hB : Below w.heap.size w (w.alloc (.cells #[.int .i64 4, .string s, .slice (some ⟨b, off, none⟩) 4 cap] 53)) := (Below.refl _ _).alloc (Nat.le_refl _) _
  have hB2 : Below w.heap.size w ((w.alloc (.cells #[.int .i64 4, .string s, .slice (some ⟨b, off, none⟩) 4 cap] 53)).alloc (.cells #[.int .i64 1, .int .i64 0, .int .i64 3, .int .i64 2] 3)) := hB.alloc (by simp) _
  go_enter Try.func46, Try.ntmps46
  go_wp2_with fail
  go_region
  go_wp2_with fail
  go_ret
  have H := newEnds_one (B := w.heap.size) ((w.alloc (.cells #[.int .i64 4, .string s, .slice (some ⟨b, off, none⟩) 4 cap] 53)).alloc (.cells #[.int .i64 1, .int .i64 0, .int .i64 3, .int .i64 2] 3)) e3 (by simp; try omega) rfl
  simp only [World.size_alloc] at H
  exact ⟨_, rfl, H.drew, (hB2.alloc (by simp; try omega) _).drew⟩

theorem l1across_4_3 (s : ByteArray) (a : Option Addr) (cap : Nat) (e0 e1 e2 e3 : Int × Int) (w : World) (h : EndsAt w a [e0, e1, e2, e3]) :
    Calls Try.prog 46 #[.agg #[.int .i64 4, .string s, .slice a 4 cap], .int .i64 3] w fun e w' =>
    ∃ v, e = .returned v ∧ NewEnds w.heap.size w' v [e2] ∧ Below w.heap.size w w' := by
  obtain ⟨b, off, rfl, c00, c01⟩ := h 0 (by simp)
  obtain ⟨b1, off1, hab1, c10, c11⟩ := h 1 (by simp)
  obtain ⟨rfl, rfl⟩ : b = b1 ∧ off = off1 := by simpa using hab1
  clear hab1
  obtain ⟨b2, off2, hab2, c20, c21⟩ := h 2 (by simp)
  obtain ⟨rfl, rfl⟩ : b = b2 ∧ off = off2 := by simpa using hab2
  clear hab2
  obtain ⟨b3, off3, hab3, c30, c31⟩ := h 3 (by simp)
  obtain ⟨rfl, rfl⟩ : b = b3 ∧ off = off3 := by simpa using hab3
  clear hab3
  simp at c00 c01 c10 c11 c20 c21 c30 c31
  have hblt := cell_lt c00
  clear h
  have hB : Below w.heap.size w (w.alloc (.cells #[.int .i64 4, .string s, .slice (some ⟨b, off, none⟩) 4 cap] 53)) := (Below.refl _ _).alloc (Nat.le_refl _) _
  have hB2 : Below w.heap.size w ((w.alloc (.cells #[.int .i64 4, .string s, .slice (some ⟨b, off, none⟩) 4 cap] 53)).alloc (.cells #[.int .i64 1, .int .i64 0, .int .i64 3, .int .i64 2] 3)) := hB.alloc (by simp) _
  go_enter Try.func46, Try.ntmps46
  go_wp2_with fail
  go_region
  go_wp2_with fail
  go_ret
  have H := newEnds_one (B := w.heap.size) ((w.alloc (.cells #[.int .i64 4, .string s, .slice (some ⟨b, off, none⟩) 4 cap] 53)).alloc (.cells #[.int .i64 1, .int .i64 0, .int .i64 3, .int .i64 2] 3)) e2 (by simp; try omega) rfl
  simp only [World.size_alloc] at H
  exact ⟨_, rfl, H.drew, (hB2.alloc (by simp; try omega) _).drew⟩
end Go.Proofs.Yteapmddadieohaa

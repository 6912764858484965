import Derived.Test.YtcodpnkfpmjleaaGreatDoorTo
import Derived.Test.YtcodpnkfpmjleaaGreatDoorMxAC
import Derived.Test.YtcodpnkfpmjleaaGreatDoorMxAG
namespace Go.Proofs.YtcodpnkfpmjleaaGreatDoor
open Go.RowKit
set_option maxHeartbeats 1000000

/-- The ends over a joint, by the place. -/
def acr (j : Jt) (i : Nat) : List (Int × Int) :=
  if j.kind = 2 then (j.ends[1 - i]?).toList
  else if j.kind = 3 then (if i = 0 then (j.ends[1]?).toList ++ (j.ends[2]?).toList else (j.ends[0]?).toList)
  else if j.kind = 4 then (j.ends[(if i = 0 then 1 else if i = 1 then 0 else if i = 2 then 3 else 2)]?).toList
  else []

/-- A new list of ends. -/
def NewEnds (B : Nat) (w : World) (v : Value) (l : List (Int × Int)) : Prop :=
  ∃ a cap, v = .slice a l.length cap ∧ EndsAt w a l ∧ (l.length = 0 ∨ ∃ b, B ≤ b ∧ a = some ⟨b, 0, none⟩ ∧ Row w b 75 (l.length * 2))

theorem NewEnds.drew {B : Nat} {w : World} {v : Value} {l} (h : NewEnds B w v l) : NewEnds B w.drew v l := h

theorem newEnds_nil (B : Nat) (w : World) : NewEnds B w (.slice none 0 0) [] := ⟨none, 0, rfl, fun k hk => by simp at hk, Or.inl rfl⟩

theorem newEnds_one {B : Nat} {w : World} (W : World) (e : Int × Int) (hB : B ≤ W.heap.size) (hw : w = W.alloc (.cells #[.int .i64 e.1, .int .i64 e.2] 75)) : NewEnds B w (.slice (some ⟨W.heap.size, 0, none⟩) 1 1) [e] := by
  subst hw
  refine ⟨_, 1, rfl, ?_, Or.inr ⟨_, hB, rfl, ⟨fun i => if i = 0 then .int .i64 e.1 else .int .i64 e.2, ?_⟩⟩⟩
  · intro k hk
    have : k = 0 := by simpa using hk
    subst this
    exact ⟨_, 0, rfl, new_cell W _ _ 0 _ rfl, new_cell W _ _ 1 _ rfl⟩
  · have h := World.rowIs_alloc W #[.int .i64 e.1, .int .i64 e.2] 75 (fun i => if i = 0 then .int .i64 e.1 else .int .i64 e.2) (by
      intro i hi
      have : i = 0 ∨ i = 1 := by simp at hi; omega
      rcases this with rfl | rfl <;> rfl)
    exact h

theorem newEnds_two {B : Nat} {w : World} (W : World) (e f : Int × Int) (hB : B ≤ W.heap.size) (hw : w = W.alloc (.cells #[.int .i64 e.1, .int .i64 e.2, .int .i64 f.1, .int .i64 f.2] 75)) : NewEnds B w (.slice (some ⟨W.heap.size, 0, none⟩) 2 2) [e, f] := by
  subst hw
  refine ⟨_, 2, rfl, ?_, Or.inr ⟨_, hB, rfl, ⟨fun i => if i = 0 then .int .i64 e.1 else if i = 1 then .int .i64 e.2 else if i = 2 then .int .i64 f.1 else .int .i64 f.2, ?_⟩⟩⟩
  · intro k hk
    have : k = 0 ∨ k = 1 := by simp at hk; omega
    rcases this with rfl | rfl
    · exact ⟨_, 0, rfl, new_cell W _ _ 0 _ rfl, new_cell W _ _ 1 _ rfl⟩
    · exact ⟨_, 0, rfl, new_cell W _ _ 2 _ rfl, new_cell W _ _ 3 _ rfl⟩
  · have h := World.rowIs_alloc W #[.int .i64 e.1, .int .i64 e.2, .int .i64 f.1, .int .i64 f.2] 75 (fun i => if i = 0 then .int .i64 e.1 else if i = 1 then .int .i64 e.2 else if i = 2 then .int .i64 f.1 else .int .i64 f.2) (by
      intro i hi
      have : i = 0 ∨ i = 1 ∨ i = 2 ∨ i = 3 := by simp at hi; omega
      rcases this with rfl | rfl | rfl | rfl <;> rfl)
    exact h

end Go.Proofs.YtcodpnkfpmjleaaGreatDoor

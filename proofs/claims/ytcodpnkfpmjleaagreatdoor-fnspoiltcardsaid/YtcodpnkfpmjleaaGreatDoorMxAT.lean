/- From the reading of the arguments to how they lie in memory. Own work. -/
import Derived.Test.YtcodpnkfpmjleaaGreatDoorMxAA
import Derived.DeepKeys4
import Derived.Deep.Slices
import Derived.Deep.Strs
import Derived.Lib.SmallJoins
import Derived.ChangeSame
import Derived.ProofKit
import Derived.Test.YtcodpnkfpmjleaaGreatDoorMxAS
import Derived.Test.YtcodpnkfpmjleaaGreatDoorMxAM
import Derived.Deep.RegionWith
namespace Go.Proofs.YtcodpnkfpmjleaaGreatDoor
open Go.RowKit Go.Joins Go.Deep Go.WideShapes Go.ChangeShapes
set_option maxRecDepth 100000

theorem list_of {α : Type} {P : Nat → α → Prop} (n : Nat) (h : ∀ i, i < n → ∃ x, P i x) : ∃ l : List α, l.length = n ∧ ∀ i (hi : i < l.length), P i l[i] := by
  induction n with
  | zero => exact ⟨[], rfl, fun i hi => by simp at hi⟩
  | succ n ih =>
    obtain ⟨l, hl, hp⟩ := ih (fun i hi => h i (by omega))
    obtain ⟨x, hx⟩ := h n (by omega)
    refine ⟨l ++ [x], by simp [hl], fun i hi => ?_⟩
    by_cases e : i < l.length
    · rw [List.getElem_append_left e]; exact hp i e
    · have : i = l.length := by simp at hi; omega
      subst this
      rw [List.getElem_append_right (Nat.le_refl _)]
      simp only [Nat.sub_self, List.getElem_singleton, hl]
      exact hx

theorem cellsI : Tryz.prog.cellsOf 3 = 1 := by kernel_rfl
theorem cellsStr : Tryz.prog.cellsOf 9 = 1 := by kernel_rfl
section
variable {H : Type} {enc : TypeId × Value → H} {w : World} {spare : Nat → Bool} {held : Bool}

end
end Go.Proofs.YtcodpnkfpmjleaaGreatDoor

namespace Go.Proofs.YtcodpnkfpmjleaaGreatDoor
open Go.RowKit
set_option maxHeartbeats 1000000

theorem below_alloc' {w w' : World} {o : Obj} (h : Below (w.alloc o).heap.size (w.alloc o) w') : Below w.heap.size w w' :=
  ((Below.refl _ _).alloc (Nat.le_refl _) _).trans (h.mono (by simp))

def wRes (N : Nt) : ByteArray := if netOk N = (0, 0) then wText N else ⟨#[]⟩
theorem specWriteNet_res (a a' : Option Addr) (N : Nt) (cap cap' : Nat) (w : World) (hn : N.pcs.length ≤ 1048576) (hs : ∀ p ∈ N.pcs, p.name.size ≤ 1048576) (hl : N.jts.length ≤ 1048576) (hm : ∀ j ∈ N.jts, j.name.size ≤ 1048576 ∧ j.ends.length ≤ 1048576) (hp : PcsAt w a N.pcs) (hj : JtsAt w a' N.jts) :
    Calls Tryz.prog 7 #[.agg #[.slice a N.pcs.length cap, .slice a' N.jts.length cap']] w fun e w' => e = .returned (.string (wRes N)) ∧ Below w.heap.size w w' :=
  specWriteNet_any a a' N cap cap' w hn hs hl hm hp hj
theorem implWriteNet_res (a a' : Option Addr) (N : Nt) (cap cap' : Nat) (w : World) (hn : N.pcs.length ≤ 1048576) (hs : ∀ p ∈ N.pcs, p.name.size ≤ 1048576) (hl : N.jts.length ≤ 1048576) (hm : ∀ j ∈ N.jts, j.name.size ≤ 1048576 ∧ j.ends.length ≤ 1048576) (hp : PcsAt w a N.pcs) (hj : JtsAt w a' N.jts) (ht : Tab w) :
    Calls Tryz.prog 6 #[.agg #[.slice a N.pcs.length cap, .slice a' N.jts.length cap']] w fun e w' => e = .returned (.string (wRes N)) ∧ Below w.heap.size w w' :=
  implWriteNet_any a a' N cap cap' w hn hs hl hm hp hj ht

end Go.Proofs.YtcodpnkfpmjleaaGreatDoor

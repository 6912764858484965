/- impl.over, at every right joint. Own work. -/
import Derived.Test.YtldafgbhjpfboaaMxAF
import Derived.Test.YtldafgbhjpfboaaAcB
import Derived.Test.YtldafgbhjpfboaaDrS
import Derived.Test.YtldafgbhjpfboaaMxAA
import Derived.DeepKeys4
import Derived.Deep.Slices
import Derived.Deep.Strs
import Derived.Lib.SmallJoins
import Derived.ChangeSame
import Derived.ProofKit
namespace Go.Proofs.Ytldafgbhjpfboaa
open Go.RowKit
set_option maxHeartbeats 1000000

theorem over_any (n : Nat) (j : Jt) (a : Option Addr) (cap i : Nat) (w : World) (h3 : jb3 n j = false) (hi : i < j.ends.length) (h : EndsAt w a j.ends) :
    Calls Try.prog 61 #[.agg #[.int .i64 j.kind, .string j.name, .slice a j.ends.length cap], .int .i64 i] w fun e w' =>
    ∃ v, e = .returned v ∧ NewEnds w.heap.size w' v (acr j i) ∧ Below w.heap.size w w' := by
  obtain ⟨hk, hl⟩ := jb3_len h3
  clear h3
  obtain ⟨kind, name, ends⟩ := j
  simp only at hk hl hi h
  have hkk : kind = 1 ∨ kind = 2 ∨ kind = 3 ∨ kind = 4 := by omega
  rcases hkk with rfl | rfl | rfl | rfl
  · match ends, (show ends.length = 1 by omega) with
    | [e0], _ =>
      have hii : i = 0 := by simp at hi; omega
      subst hii
      exact over_1_0 name a cap e0 w h
  · match ends, (show ends.length = 2 by omega) with
    | [e0, e1], _ =>
      have hii : i = 0 ∨ i = 1 := by simp at hi; omega
      rcases hii with rfl | rfl
      · exact over_2_0 name a cap e0 e1 w h
      · exact over_2_1 name a cap e0 e1 w h
  · match ends, (show ends.length = 3 by omega) with
    | [e0, e1, e2], _ =>
      have hii : i = 0 ∨ i = 1 ∨ i = 2 := by simp at hi; omega
      rcases hii with rfl | rfl | rfl
      · exact over_3_0 name a cap e0 e1 e2 w h
      · exact over_3_1 name a cap e0 e1 e2 w h
      · exact over_3_2 name a cap e0 e1 e2 w h
  · match ends, (show ends.length = 4 by omega) with
    | [e0, e1, e2, e3], _ =>
      have hii : i = 0 ∨ i = 1 ∨ i = 2 ∨ i = 3 := by simp at hi; omega
      rcases hii with rfl | rfl | rfl | rfl
      · exact over_4_0 name a cap e0 e1 e2 e3 w h
      · exact over_4_1 name a cap e0 e1 e2 e3 w h
      · exact over_4_2 name a cap e0 e1 e2 e3 w h
      · exact over_4_3 name a cap e0 e1 e2 e3 w h
end Go.Proofs.Ytldafgbhjpfboaa

/- The cursor's small methods. Own work. -/
namespace Go.Proofs.Ytldafgbhjpfboaa
open Go.RowKit
set_option maxHeartbeats 2000000

theorem room_any (q a wy len : Int) (w : World) (hwy : wy = 1 ∨ wy = -1) (hl : 0 ≤ len ∧ len ≤ 10000000) (ha : 0 ≤ a ∧ a ≤ 10000000) :
    Calls Try.prog 62 #[.agg #[.int .i64 q, .int .i64 a, .int .i64 wy], .int .i64 len] w fun e w' => e = .returned (.int .i64 (if wy = 1 then len - a else a)) ∧ Below w.heap.size w w' := by
  obtain ⟨hl0, hl1⟩ := hl
  obtain ⟨ha0, ha1⟩ := ha
  have hbA := (Below.refl w.heap.size w).alloc (Nat.le_refl _) (.cells #[.int .i64 q, .int .i64 a, .int .i64 wy] 53)
  rcases hwy with rfl | rfl
  all_goals
    go_enter Try.func62, Try.ntmps62
    go_wp2_with fail
    go_ret
    exact ⟨ret_i (by simp), hbA⟩

theorem facing_any (q a wy : Int) (w : World) (hwy : wy = 1 ∨ wy = -1) :
    Calls Try.prog 54 #[.agg #[.int .i64 q, .int .i64 a, .int .i64 wy]] w fun e w' => e = .returned (.agg #[.int .i64 (headP q wy).1, .int .i64 (headP q wy).2]) ∧ Below w.heap.size w w' := by
  rcases hwy with rfl | rfl
  · go_enter Try.func54, Try.ntmps54
    go_wp2_with fail
    exact bodyPost_ret (v := .agg #[.int .i64 q, .int .i64 1]) (by simp [results, Try.results54, go_sem]) rfl ⟨rfl, ((Below.refl _ _).alloc (Nat.le_refl _) _).alloc (by simp) _⟩
  · go_enter Try.func54, Try.ntmps54
    go_wp2_with fail
    exact bodyPost_ret (v := .agg #[.int .i64 q, .int .i64 0]) (by simp [results, Try.results54, go_sem]) rfl ⟨rfl, ((Below.refl _ _).alloc (Nat.le_refl _) _).alloc (by simp) _⟩

/-- The interface value for a kind. -/
def kindV (k : Int) : Value := if k = 1 then .iface 122 (.agg #[]) else if k = 2 then .iface 123 (.agg #[]) else if k = 3 then .iface 124 (.agg #[]) else .iface 125 (.agg #[])
theorem kindOf_any (k : Int) (h : 1 ≤ k ∧ k ≤ 4) (w : World) : Calls Try.prog 60 #[.int .i64 k] w fun e w' => e = .returned (kindV k) ∧ w = w' := by
  have hk : k = 1 ∨ k = 2 ∨ k = 3 ∨ k = 4 := by omega
  rcases hk with rfl | rfl | rfl | rfl
  · exact kindOf_1 w
  · exact kindOf_2 w
  · exact kindOf_3 w
  · exact kindOf_4 w

theorem tb_1 (w : World) : (Instr.typeAssert (.iface 122 (.agg #[])) 116 122 true).run Try.prog w = .ok (.tuple #[.agg #[], .bool true]) w := by kernel_rfl
theorem tb_2 (w : World) : (Instr.typeAssert (.iface 123 (.agg #[])) 116 122 true).run Try.prog w = .ok (.tuple #[.agg #[], .bool false]) w := by kernel_rfl
theorem tb_3 (w : World) : (Instr.typeAssert (.iface 124 (.agg #[])) 116 122 true).run Try.prog w = .ok (.tuple #[.agg #[], .bool false]) w := by kernel_rfl
theorem tb_4 (w : World) : (Instr.typeAssert (.iface 125 (.agg #[])) 116 122 true).run Try.prog w = .ok (.tuple #[.agg #[], .bool false]) w := by kernel_rfl

end Go.Proofs.Ytldafgbhjpfboaa

/- From the reading of the arguments to how they lie in memory. Own work. -/
namespace Go.Proofs.Ytldafgbhjpfboaa
open Go.RowKit Go.Joins Go.Deep Go.WideShapes Go.ChangeShapes
set_option maxRecDepth 100000

theorem list_of {α : Type} {P : Nat → α → Prop} (n : Nat) (h : ∀ i, i < n → ∃ x, P i x) : ∃ l : List α, l.length = n ∧ ∀ i (hi : i < l.length), P i l[i] := by
  induction n with
  | zero => exact ⟨[], rfl, fun i hi => by simp at hi⟩
  | succ n ih =>
    obtain ⟨l, hl, hp⟩ := ih (fun i hi => h i (by omega))
    obtain ⟨x, hx⟩ := h n (by omega)
    refine ⟨l ++ [x], by simp [hl], fun i hi => ?_⟩
    by_cases e : i < l.length
    · rw [List.getElem_append_left e]; exact hp i e
    · have : i = l.length := by simp at hi; omega
      subst this
      rw [List.getElem_append_right (Nat.le_refl _)]
      simp only [Nat.sub_self, List.getElem_singleton, hl]
      exact hx

theorem cellsI : Try.prog.cellsOf 3 = 1 := by kernel_rfl
theorem cellsStr : Try.prog.cellsOf 9 = 1 := by kernel_rfl
section
variable {H : Type} {enc : TypeId × Value → H} {w : World} {spare : Nat → Bool} {held : Bool}

end
end Go.Proofs.Ytldafgbhjpfboaa

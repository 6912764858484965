/- cross. Own work. -/
import Derived.Test.YtldafgbhjpfboaaMxAY
import Derived.Test.YtldafgbhjpfboaaMxAM
namespace Go.Proofs.Ytldafgbhjpfboaa
open Go.RowKit
set_option maxHeartbeats 8000000

abbrev XS (w0 wx : World) (B m : Nat) (q a wy hx hy : Int) (sv : Value) : Prop :=
  (wx.cell? ⟨B, 0, none⟩ = some (.int .i64 q) ∧ wx.cell? ⟨B, 1, none⟩ = some (.int .i64 a) ∧ wx.cell? ⟨B, 2, none⟩ = some (.int .i64 wy) ∧ wx.cell? ⟨B, 6, none⟩ = some (.map (some m)) ∧ (Instr.lookup 42 (.map (some m)) (.agg #[.int .i64 hx, .int .i64 hy]) false).run Try.prog wx = .ok sv wx) ∧ Hid (Below w0.heap.size w0 wx)

theorem keepX {w0 w2 w3 : World} {B m : Nat} {q a wy hx hy : Int} {sv : Value} (hall : ∀ wx, Below w0.heap.size w0 wx → XS w0 wx B m q a wy hx hy sv) (hb : Below w2.heap.size w2 w3) (h : XS w0 w2 B m q a wy hx hy sv) : XS w0 w3 B m q a wy hx hy sv :=
  hall w3 (h.2.out.trans (hb.mono h.2.out.size))
theorem keepX3 {w0 w2 : World} {B m : Nat} {q a wy hx hy : Int} {sv : Value} (hall : ∀ wx, Below w0.heap.size w0 wx → XS w0 wx B m q a wy hx hy sv) {b : Nat} (hb : w0.heap.size ≤ b) (h : XS w0 w2 B m q a wy hx hy sv) (x y z : Value) : XS w0 (((w2.setCell ⟨b, 0, none⟩ x).setCell ⟨b, 1, none⟩ y).setCell ⟨b, 2, none⟩ z) B m q a wy hx hy sv :=
  hall _ (((h.2.out.setCell hb _).setCell hb _).setCell hb _)

/-- What is read on the way to entry. -/
abbrev XE (w' : World) (B b6 : Nat) (sp : Value) (k : Nat) (sd : Int) : Prop := w'.cell? ⟨B, 3, none⟩ = some sp ∧ w'.cell? ⟨b6, 0, none⟩ = some (.int .i64 k) ∧ w'.cell? ⟨b6, 1, none⟩ = some (.int .i64 sd)
theorem XE.later {w1 w2 : World} {B b6 : Nat} {sp : Value} {k : Nat} {sd : Int} (h : XE w1 B b6 sp k sd) (hb : Below w1.heap.size w1 w2) : XE w2 B b6 sp k sd := ⟨cell_later' hb h.1, cell_later' hb h.2.1, cell_later' hb h.2.2⟩
theorem XE.put {w1 : World} {B b6 : Nat} {sp : Value} {k : Nat} {sd : Int} (h : XE w1 B b6 sp k sd) (hne : ¬ b6 = B) (x y z : Value) : XE (((w1.setCell ⟨B, 0, none⟩ x).setCell ⟨B, 1, none⟩ y).setCell ⟨B, 2, none⟩ z) B b6 sp k sd := by
  have e : ∀ (W : World) (o : Nat) (v : Value) (i : Nat) (u : Value), W.cell? ⟨b6, i, none⟩ = some u → (W.setCell ⟨B, o, none⟩ v).cell? ⟨b6, i, none⟩ = some u := fun W o v i u hu => by
    rw [World.cell?_setCell_far W ⟨B, o, none⟩ ⟨b6, i, none⟩ v (by show B ≠ b6; omega)]; exact hu
  refine ⟨?_, e _ _ _ _ _ (e _ _ _ _ _ (e _ _ _ _ _ h.2.1)), e _ _ _ _ _ (e _ _ _ _ _ (e _ _ _ _ _ h.2.2))⟩
  have := h.1
  simp [go_sem, this]

theorem facing_at {q a wy hx hy : Int} (hwy : wy = 1 ∨ wy = -1) (hH : headP q wy = (hx, hy)) (w : World) :
    Calls Try.prog 54 #[.agg #[.int .i64 q, .int .i64 a, .int .i64 wy]] w fun e w' => e = .returned (.agg #[.int .i64 hx, .int .i64 hy]) ∧ Below w.heap.size w w' := (facing_any q a wy w hwy).mono fun _ _ h => ⟨by rw [h.1, hH], h.2⟩
theorem kindOf_s {k : Int} (h : 1 ≤ k ∧ k ≤ 4) (w : World) : Calls Try.prog 60 #[.int .i64 k] w fun e w' => e = .returned (kindV k) ∧ w' = w := (kindOf_any k h w).mono fun _ _ h => ⟨h.1, h.2.symm⟩
end Go.Proofs.Ytldafgbhjpfboaa

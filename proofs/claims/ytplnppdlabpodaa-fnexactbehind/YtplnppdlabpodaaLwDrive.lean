/- The law FnExactDrive's walk, over whatever impl.Drive answers as it should. Own work. -/
import Derived.Test.YtplnppdlabpodaaDrD
import Derived.Test.YtplnppdlabpodaaMxAD
import Derived.Test.YtplnppdlabpodaaMxAA
namespace Go.Proofs.Ytplnppdlabpodaa
open Go.RowKit
set_option maxHeartbeats 8000000

/-- impl.Drive answers as it should. -/
def DriveDone : Prop := ∀ (a a' z : Option Addr) (N : Nt) (cap cap' zc : Nat) (xs : List Int) (q at' way far : Int) (w : World), Wf3 q at' way → (Lit.int .i64 far).wf = true → (∀ x ∈ xs, (Lit.int .i64 x).wf = true) → N.pcs.length ≤ 1048576 → (∀ p ∈ N.pcs, p.name.size ≤ 1048576) → N.jts.length ≤ 1048576 → (∀ j ∈ N.jts, j.name.size ≤ 1048576 ∧ j.ends.length ≤ 1048576) → xs.length ≤ 1048576 → PcsAt w a N.pcs → JtsAt w a' N.jts → IntsAt w z xs →
    Calls Try.prog 37 #[.agg #[.slice a N.pcs.length cap, .slice a' N.jts.length cap'], .slice z xs.length zc, .agg #[.int .i64 q, .int .i64 at', .int .i64 way], .int .i64 far] w fun e w' =>
    ∃ r : DRes, DriveA N xs q at' way far r ∧ e = .returned (.agg #[.int .i64 r.code, .int .i64 r.far, .int .i64 r.joint, .int .i64 r.q, .int .i64 r.at', .int .i64 r.way]) ∧ Below w.heap.size w w'

theorem six_new (w : World) (T : TypeId) : Six (w.alloc (.cells #[.int .i64 0, .int .i64 0, .int .i64 0, .int .i64 0, .int .i64 0, .int .i64 0] T)) w.heap.size 0 0 0 0 0 0 :=
  ⟨by simp [go_sem], by simp [go_sem], by simp [go_sem], by simp [go_sem], by simp [go_sem], by simp [go_sem], by simp [go_sem], by simp [go_sem], by simp [go_sem], by simp [go_sem], by simp [go_sem], by simp [go_sem]⟩
abbrev In6 (w : World) (b : Nat) (r : DRes) : Prop := w.cell? ⟨b, 0, none⟩ = some (.int .i64 r.code) ∧ w.cell? ⟨b, 1, none⟩ = some (.int .i64 r.far) ∧ w.cell? ⟨b, 2, none⟩ = some (.int .i64 r.joint) ∧ w.cell? ⟨b, 3, none⟩ = some (.int .i64 r.q) ∧ w.cell? ⟨b, 4, none⟩ = some (.int .i64 r.at') ∧ w.cell? ⟨b, 5, none⟩ = some (.int .i64 r.way)
theorem In6.later {w w' : World} {b : Nat} {r : DRes} (h : In6 w b r) (hb : Below w.heap.size w w') : In6 w' b r := ⟨cell_later' hb h.1, cell_later' hb h.2.1, cell_later' hb h.2.2.1, cell_later' hb h.2.2.2.1, cell_later' hb h.2.2.2.2.1, cell_later' hb h.2.2.2.2.2⟩
abbrev set6 (w : World) (b : Nat) (r : DRes) : World := (((((w.setCell ⟨b, 0, none⟩ (.int .i64 r.code)).setCell ⟨b, 1, none⟩ (.int .i64 r.far)).setCell ⟨b, 2, none⟩ (.int .i64 r.joint)).setCell ⟨b, 3, none⟩ (.int .i64 r.q)).setCell ⟨b, 4, none⟩ (.int .i64 r.at')).setCell ⟨b, 5, none⟩ (.int .i64 r.way)
theorem In6.put {w : World} {b : Nat} (h : Six w b 0 0 0 0 0 0) (r : DRes) : In6 (set6 w b r) b r := by
  obtain ⟨h0, h1, h2, h3, h4, h5, _⟩ := h
  exact ⟨by simp [go_sem, h0], by simp [go_sem, h1], by simp [go_sem, h2], by simp [go_sem, h3], by simp [go_sem, h4], by simp [go_sem, h5]⟩
theorem set6_far {w : World} {b B i : Nat} {u : Value} (r : DRes) (h : w.cell? ⟨B, i, none⟩ = some u) (hB : B < b) : (set6 w b r).cell? ⟨B, i, none⟩ = some u := by
  have e : ∀ (W : World) (o : Nat) (v : Value), W.cell? ⟨B, i, none⟩ = some u → (W.setCell ⟨b, o, none⟩ v).cell? ⟨B, i, none⟩ = some u := fun W o v hu => by
    rw [World.cell?_setCell_far W ⟨b, o, none⟩ ⟨B, i, none⟩ v (by show b ≠ B; omega)]; exact hu
  exact e _ _ _ (e _ _ _ (e _ _ _ (e _ _ _ (e _ _ _ (e _ _ _ h)))))
theorem set6_below {w0 w : World} {B b : Nat} (r : DRes) (h : Below B w0 w) (hB : B ≤ b) : Below B w0 (set6 w b r) :=
  (((((h.setCell hB _).setCell hB _).setCell hB _).setCell hB _).setCell hB _).setCell hB _
theorem keepS6 {w w2 : World} {v0 v1 : Value} {q at' way : Int} {b : Nat} (h : LS w w w2 v0 v1 q at' way) (hb : w.heap.size + 1 < b) (r : DRes) : LS w w (set6 w2 b r) v0 v1 q at' way :=
  ⟨⟨set6_far r h.1.1 (by omega), set6_far r h.1.2.1 (by omega), set6_far r h.1.2.2.1 (by omega), set6_far r h.1.2.2.2.1 (by omega), set6_far r h.1.2.2.2.2 (by omega)⟩, set6_below r h.2.out (by omega)⟩
abbrev LB (w w8 w' : World) (v0 v1 : Value) (q at' way : Int) (b : Nat) (u0 u1 : Value) : Prop := LS2 w w w' v0 v1 q at' way b u0 u1 ∧ Hid (Below w8.heap.size w8 w')
theorem keepLB {w w1 w2 w3 : World} {v0 v1 u0 u1 : Value} {q at' way : Int} {b : Nat} (hb : Below w2.heap.size w2 w3) (h : LB w w1 w2 v0 v1 q at' way b u0 u1) : LB w w1 w3 v0 v1 q at' way b u0 u1 :=
  ⟨keepL2 hb h.1, h.2.out.trans (hb.mono h.2.out.size)⟩
theorem keepLB6 {w w1 w2 : World} {v0 v1 u0 u1 : Value} {q at' way : Int} {b c : Nat} (h : LB w w1 w2 v0 v1 q at' way c u0 u1) (hb : w1.heap.size ≤ b) (hw : w.heap.size + 1 < w1.heap.size) (hc : c < w1.heap.size) (r : DRes) : LB w w1 (set6 w2 b r) v0 v1 q at' way c u0 u1 :=
  ⟨⟨keepS6 h.1.1 (by omega) r, set6_far r h.1.2.1 (by omega), set6_far r h.1.2.2 (by omega)⟩, set6_below r h.2.out hb⟩
theorem Six.drew {w : World} {B : Nat} {x0 x1 x2 x3 x4 x5 : Int} (h : Six w B x0 x1 x2 x3 x4 x5) : Six w.drew B x0 x1 x2 x3 x4 x5 :=
  ⟨h.c0, h.c1, h.c2, h.c3, h.c4, h.c5, h.f0, h.f1, h.f2, h.f3, h.f4, h.f5⟩
theorem six_d {w w1 : World} {T : TypeId} (hb : Below (w.alloc (.cells #[.int .i64 0, .int .i64 0, .int .i64 0, .int .i64 0, .int .i64 0, .int .i64 0] T)).drew.heap.size (w.alloc (.cells #[.int .i64 0, .int .i64 0, .int .i64 0, .int .i64 0, .int .i64 0, .int .i64 0] T)).drew w1) : Six w1 w.heap.size 0 0 0 0 0 0 :=
  Six.later (w := (w.alloc (.cells #[.int .i64 0, .int .i64 0, .int .i64 0, .int .i64 0, .int .i64 0, .int .i64 0] T)).drew) (six_new w T).drew hb
end Go.Proofs.Ytplnppdlabpodaa

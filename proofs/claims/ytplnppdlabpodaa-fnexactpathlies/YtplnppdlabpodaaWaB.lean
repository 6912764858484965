/- layoutOf, between. Own work. -/
import Derived.Test.YtplnppdlabpodaaWaA
import Derived.Test.YtplnppdlabpodaaMxAG
import Derived.Test.YtplnppdlabpodaaSpD
import Derived.Deep.RegionHeld3
namespace Go.Proofs.Ytplnppdlabpodaa
open Go.RowKit
set_option maxHeartbeats 4000000

/-- The box of a net, as it lies. -/
abbrev LY (w wx : World) (v0 v1 : Value) : Prop := (wx.cell? ⟨w.heap.size, 0, none⟩ = some v0 ∧ wx.cell? ⟨w.heap.size, 1, none⟩ = some v1) ∧ Hid (Below w.heap.size w wx)
theorem keepY {w w2 w3 : World} {v0 v1 : Value} (hb : Below w2.heap.size w2 w3) (h : LY w w2 v0 v1) : LY w w3 v0 v1 :=
  ⟨⟨cell_later' hb h.1.1, cell_later' hb h.1.2⟩, h.2.out.trans (hb.mono h.2.out.size)⟩
theorem putY {w w2 : World} {v0 v1 : Value} {b : Nat} (hb : w.heap.size < b) (h : LY w w2 v0 v1) (x y z : Value) : LY w (((w2.setCell ⟨b, 0, none⟩ x).setCell ⟨b, 1, none⟩ y).setCell ⟨b, 2, none⟩ z) v0 v1 := by
  have e : ∀ (W : World) (o : Nat) (v : Value) (i : Nat) (u : Value), W.cell? ⟨w.heap.size, i, none⟩ = some u → (W.setCell ⟨b, o, none⟩ v).cell? ⟨w.heap.size, i, none⟩ = some u := fun W o v i u hu => by
    rw [World.cell?_setCell_far W ⟨b, o, none⟩ ⟨w.heap.size, i, none⟩ v (by show b ≠ w.heap.size; omega)]; exact hu
  exact ⟨⟨e _ _ _ _ _ (e _ _ _ _ _ (e _ _ _ _ _ h.1.1)), e _ _ _ _ _ (e _ _ _ _ _ (e _ _ _ _ _ h.1.2))⟩, ((h.2.out.setCell (by show w.heap.size ≤ b; omega) _).setCell (by show w.heap.size ≤ b; omega) _).setCell (by show w.heap.size ≤ b; omega) _⟩

theorem se_set3 {w : World} {b m n : Nat} {G : Int × Int → Option (Int × Int × Int)} (h : SE w m n G) (hne : m ≠ b) (x y z : Value) : SE (((w.setCell ⟨b, 0, none⟩ x).setCell ⟨b, 1, none⟩ y).setCell ⟨b, 2, none⟩ z) m n G :=
  ((h.of_block (Below.heap_setCell _ _ _ _ hne)).of_block (Below.heap_setCell _ _ _ _ hne)).of_block (Below.heap_setCell _ _ _ _ hne)

theorem layoutOf_any (a a' : Option Addr) (N : Nt) (cap cap' : Nat) (w : World) (hl : N.jts.length ≤ 1048576) (hm : ∀ j ∈ N.jts, j.ends.length ≤ 1048576) (hw : ∀ j ∈ N.jts, ∀ e ∈ j.ends, Wf2 e) (hj : JtsAt w a' N.jts) :
    Calls Try.prog 127 #[.agg #[.slice a N.pcs.length cap, .slice a' N.jts.length cap']] w fun e w' =>
    ∃ m n, e = .returned (.agg #[.slice a N.pcs.length cap, .slice a' N.jts.length cap', .map (some m)]) ∧ SE w' m n (seatTo N.jts N.jts.length) ∧ w.heap.size ≤ m ∧ Below w.heap.size w w' := by
  have HJ := hide hj
  have HM := hide hm
  have HW := hide hw
  clear hj hm hw
  have hbW : Below w.heap.size w ((w.alloc (.cells #[.slice a N.pcs.length cap, .slice a' N.jts.length cap'] 33)).alloc (.cells #[.slice none 0 0, .slice none 0 0, .map none] 173)) := ((Below.refl _ _).alloc (Nat.le_refl _) _).alloc (by simp) _
  have HL1 : Hid (LY w ((w.alloc (.cells #[.slice a N.pcs.length cap, .slice a' N.jts.length cap'] 33)).alloc (.cells #[.slice none 0 0, .slice none 0 0, .map none] 173)) (.slice a N.pcs.length cap) (.slice a' N.jts.length cap')) := ⟨⟨by simp [go_sem], by simp [go_sem]⟩, hbW⟩
  have y := fun i v h => new_cell (w.alloc (.cells #[.slice a N.pcs.length cap, .slice a' N.jts.length cap'] 33)) #[.slice none 0 0, .slice none 0 0, .map none] 173 i v h
  have y0 := y 0 _ rfl
  have y1 := y 1 _ rfl
  have y2 := y 2 _ rfl
  have f : ∀ i, ((w.alloc (.cells #[.slice a N.pcs.length cap, .slice a' N.jts.length cap'] 33)).alloc (.cells #[.slice none 0 0, .slice none 0 0, .map none] 173)).frozen? ⟨w.heap.size + 1, i, none⟩ = false := fun i => by simp [go_sem]
  rw [World.size_alloc] at y0 y1 y2
  have HY := hide (And.intro y0 (And.intro y1 (And.intro y2 f)))
  clear hbW y y0 y1 y2 f
  go_enter Try.func127, Try.ntmps127
  go_upto_region 1 with fail
  generalize ((w.alloc (.cells #[.slice a N.pcs.length cap, .slice a' N.jts.length cap'] 33)).alloc (.cells #[.slice none 0 0, .slice none 0 0, .map none] 173)) = w1 at *
  have h1 := (heldB HL1.out).size
  have hlt1 := cell_lt HY.out.1
  go_region_held3 (fun w' => LY w w' (.slice a N.pcs.length cap) (.slice a' N.jts.length cap'))
    (first
      | (exact keepY ((Below.refl w1.heap.size w1).drew) HL1.out)
      | (exact HL2.out)
      | (exact putY (by omega) HL2.out _ _ _))
    (first
      | (go_at_call 110; refine (seatsOf_any a' cap' N.jts _ hl HM.out HW.out (HJ.out.later (heldB (keepY ((Below.refl w1.heap.size w1).drew) HL1.out)))).mono ?_; rintro e w2 ⟨rfl, ⟨mm, hSE⟩, hb2⟩; have HL2 := hide (keepY hb2 (keepY ((Below.refl w1.heap.size w1).drew) HL1.out)); have HSE := hide hSE; have y0 := cell_later' (((Below.refl w1.heap.size w1).drew).trans hb2) HY.out.1; have y1 := cell_later' (((Below.refl w1.heap.size w1).drew).trans hb2) HY.out.2.1; have y2 := cell_later' (((Below.refl w1.heap.size w1).drew).trans hb2) HY.out.2.2.1; have f0 := frozen_later (((Below.refl w1.heap.size w1).drew).trans hb2) HY.out.1 (HY.out.2.2.2 0); have f1 := frozen_later (((Below.refl w1.heap.size w1).drew).trans hb2) HY.out.2.1 (HY.out.2.2.2 1); have f2 := frozen_later (((Below.refl w1.heap.size w1).drew).trans hb2) HY.out.2.2.1 (HY.out.2.2.2 2); clear hSE))
  have HB2 := hide (heldB HL2.out)
  clear HL2
  go_wp2_with fail
  refine bodyPost_ret (v := .agg #[.slice a N.pcs.length cap, .slice a' N.jts.length cap', .map (some w1.heap.size)]) (by simp [results, Try.results127, go_sem, y0, y1, y2]) rfl ⟨_, mm, rfl, ?_, h1, ?_⟩
  · exact se_set3 (by have h := HSE.out; simp only [World.size_drew] at h; exact h) (by omega) _ _ _
  · exact ((HB2.out.setCell (by show w.heap.size ≤ w.heap.size + 1; omega) _).setCell (by show w.heap.size ≤ w.heap.size + 1; omega) _).setCell (by show w.heap.size ≤ w.heap.size + 1; omega) _

/-- The layout's and the first step's boxes, as they lie, and what is looked up. -/
abbrev BS (w0 wx : World) (B m : Nat) (q wy hx hy : Int) (sv : Value) : Prop :=
  (wx.cell? ⟨B, 2, none⟩ = some (.map (some m)) ∧ wx.cell? ⟨B + 1, 0, none⟩ = some (.int .i64 q) ∧ wx.cell? ⟨B + 1, 1, none⟩ = some (.int .i64 wy) ∧ (Instr.lookup 146 (.map (some m)) (.agg #[.int .i64 hx, .int .i64 hy]) false).run Try.prog wx = .ok sv wx) ∧ Hid (Below w0.heap.size w0 wx)
theorem bs_of {w0 : World} {B m n : Nat} {js : List Jt} {q wy : Int} (hSE : SE w0 m n (seatTo js js.length)) (c2 : w0.cell? ⟨B, 2, none⟩ = some (.map (some m))) (d0 : w0.cell? ⟨B + 1, 0, none⟩ = some (.int .i64 q)) (d1 : w0.cell? ⟨B + 1, 1, none⟩ = some (.int .i64 wy)) {hx hy x y z : Int} (hw : Wf2 (hx, hy)) (ht : (seatTo js js.length (hx, hy)).getD (0, 0, 0) = (x, y, z)) {wx : World} (hb : Below w0.heap.size w0 wx) :
    BS w0 wx B m q wy hx hy (.agg #[.int .i64 x, .int .i64 y, .int .i64 z]) := by
  refine ⟨⟨cell_later' hb c2, cell_later' hb d0, cell_later' hb d1, ?_⟩, hb⟩
  rw [(hSE.of_block (hb.block m hSE.lt)).look hx hy hw, ht]
  rfl
theorem keepBS {w0 w2 w3 : World} {B m : Nat} {q wy hx hy : Int} {sv : Value} (hall : ∀ wx, Below w0.heap.size w0 wx → BS w0 wx B m q wy hx hy sv) (hb : Below w2.heap.size w2 w3) (h : BS w0 w2 B m q wy hx hy sv) : BS w0 w3 B m q wy hx hy sv :=
  hall w3 (h.2.out.trans (hb.mono h.2.out.size))
theorem keepBS3 {w0 w2 : World} {B m : Nat} {q wy hx hy : Int} {sv : Value} (hall : ∀ wx, Below w0.heap.size w0 wx → BS w0 wx B m q wy hx hy sv) {b : Nat} (hb : w0.heap.size ≤ b) (h : BS w0 w2 B m q wy hx hy sv) (x y z : Value) : BS w0 (((w2.setCell ⟨b, 0, none⟩ x).setCell ⟨b, 1, none⟩ y).setCell ⟨b, 2, none⟩ z) B m q wy hx hy sv :=
  hall _ (((h.2.out.setCell hb _).setCell hb _).setCell hb _)
theorem stepTo_at {q wy hx hy : Int} (hwy : wy = 1 ∨ wy = -1) (hH : headP q wy = (hx, hy)) (w : World) :
    Calls Try.prog 138 #[.agg #[.int .i64 q, .int .i64 wy]] w fun e w' => e = .returned (.agg #[.int .i64 hx, .int .i64 hy]) ∧ Below w.heap.size w w' := (stepTo_any q wy w hwy).mono fun _ _ h => ⟨by rw [h.1, hH], h.2⟩
theorem stepFrom_at {q wy hx hy : Int} (hwy : wy = 1 ∨ wy = -1) (hH : headP q (-wy) = (hx, hy)) (w : World) :
    Calls Try.prog 140 #[.agg #[.int .i64 q, .int .i64 wy]] w fun e w' => e = .returned (.agg #[.int .i64 hx, .int .i64 hy]) ∧ Below w.heap.size w w' := (stepFrom_any q wy w hwy).mono fun _ _ h => ⟨by rw [h.1, hH], h.2⟩

/-- What between tells. -/
def BtwQ (N : Nt) (s t : Int × Int) (w : World) (e : Ending) (w' : World) : Prop :=
  ((wantP N s t = none ∧ e = .returned (.tuple #[.agg #[.int .i64 0, .int .i64 0], .bool false])) ∨
   ∃ (j : Nat) (l : Int) (hj : j < N.jts.length), wantP N s t = some (j, l) ∧ (N.jts[j].kind = 3 → ¬ l = 0) ∧ (¬ l = 0 → N.jts[j].kind = 3) ∧ 0 ≤ l ∧ l ≤ 2 ∧ e = .returned (.tuple #[.agg #[.int .i64 j, .int .i64 l], .bool true])) ∧ Below w.heap.size w w'

/-- What the test of between reads. -/
abbrev B3 (w1 wx : World) (b9 B5 : Nat) (k : Int) (nm : ByteArray) (es : Value) (b8 : Nat) (i t1 t2 : Int) : Prop :=
  ((wx.cell? ⟨b9, 0, none⟩ = some (.int .i64 k) ∧ wx.cell? ⟨b9, 1, none⟩ = some (.string nm) ∧ wx.cell? ⟨b9, 2, none⟩ = some es) ∧ wx.cell? ⟨b8, 1, none⟩ = some (.int .i64 i) ∧ wx.cell? ⟨B5, 0, none⟩ = some (.int .i64 t1) ∧ wx.cell? ⟨B5, 1, none⟩ = some (.int .i64 t2)) ∧ Hid (Below w1.heap.size w1 wx)
theorem keepB3 {w1 w2 w3 : World} {b9 B5 : Nat} {k : Int} {nm : ByteArray} {es : Value} {b8 : Nat} {i t1 t2 : Int} (hb : Below w2.heap.size w2 w3) (h : B3 w1 w2 b9 B5 k nm es b8 i t1 t2) : B3 w1 w3 b9 B5 k nm es b8 i t1 t2 :=
  ⟨⟨⟨cell_later' hb h.1.1.1, cell_later' hb h.1.1.2.1, cell_later' hb h.1.1.2.2⟩, cell_later' hb h.1.2.1, cell_later' hb h.1.2.2.1, cell_later' hb h.1.2.2.2⟩, h.2.out.trans (hb.mono h.2.out.size)⟩

/-- What the last statement of between reads. -/
abbrev B7 (w wx : World) (b8 m : Nat) (j i : Nat) (t1 t2 fx fy : Int) (sv : Value) : Prop :=
  (wx.cell? ⟨b8, 0, none⟩ = some (.int .i64 j) ∧ wx.cell? ⟨b8, 1, none⟩ = some (.int .i64 i) ∧ wx.cell? ⟨w.heap.size, 2, none⟩ = some (.map (some m)) ∧ wx.cell? ⟨w.heap.size + 1 + 1, 0, none⟩ = some (.int .i64 t1) ∧ wx.cell? ⟨w.heap.size + 1 + 1, 1, none⟩ = some (.int .i64 t2) ∧ (Instr.lookup 146 (.map (some m)) (.agg #[.int .i64 fx, .int .i64 fy]) false).run Try.prog wx = .ok sv wx) ∧ Hid (Below w.heap.size w wx)
theorem look7 {w : World} {m n : Nat} {js : List Jt} (hSE : SE w m n (seatTo js js.length)) {fx fy x y z : Int} (hw : Wf2 (fx, fy)) (ht : (seatTo js js.length (fx, fy)).getD (0, 0, 0) = (x, y, z)) {wx : World} (hb : Below w.heap.size w wx) :
    (Instr.lookup 146 (.map (some m)) (.agg #[.int .i64 fx, .int .i64 fy]) false).run Try.prog wx = .ok (.agg #[.int .i64 x, .int .i64 y, .int .i64 z]) wx := by
  rw [(hSE.of_block (hb.block m hSE.lt)).look fx fy hw, ht]
  rfl
theorem keepB7 {w w2 w3 : World} {b8 m : Nat} {j i : Nat} {t1 t2 fx fy : Int} {sv : Value} (hall : ∀ wx, Below w.heap.size w wx → (Instr.lookup 146 (.map (some m)) (.agg #[.int .i64 fx, .int .i64 fy]) false).run Try.prog wx = .ok sv wx) (hb : Below w2.heap.size w2 w3) (h : B7 w w2 b8 m j i t1 t2 fx fy sv) : B7 w w3 b8 m j i t1 t2 fx fy sv :=
  have h3 := h.2.out.trans (hb.mono h.2.out.size)
  ⟨⟨cell_later' hb h.1.1, cell_later' hb h.1.2.1, cell_later' hb h.1.2.2.1, cell_later' hb h.1.2.2.2.1, cell_later' hb h.1.2.2.2.2.1, hall _ h3⟩, h3⟩
theorem putB7 {w w2 : World} {b8 m : Nat} {j i : Nat} {t1 t2 fx fy : Int} {sv : Value} (hall : ∀ wx, Below w.heap.size w wx → (Instr.lookup 146 (.map (some m)) (.agg #[.int .i64 fx, .int .i64 fy]) false).run Try.prog wx = .ok sv wx) (h8 : w.heap.size + 1 + 1 + 1 < b8) (h : B7 w w2 b8 m j i t1 t2 fx fy sv) (x y : Value) : B7 w ((w2.setCell ⟨w.heap.size + 1 + 1 + 1, 0, none⟩ x).setCell ⟨w.heap.size + 1 + 1 + 1, 1, none⟩ y) b8 m j i t1 t2 fx fy sv := by
  have e : ∀ (W : World) (o : Nat) (v : Value) (b i : Nat) (u : Value), w.heap.size + 1 + 1 + 1 ≠ b → W.cell? ⟨b, i, none⟩ = some u → (W.setCell ⟨w.heap.size + 1 + 1 + 1, o, none⟩ v).cell? ⟨b, i, none⟩ = some u := fun W o v b i u hb hu => by
    rw [World.cell?_setCell_far W ⟨w.heap.size + 1 + 1 + 1, o, none⟩ ⟨b, i, none⟩ v hb]; exact hu
  have h3 : Below w.heap.size w ((w2.setCell ⟨w.heap.size + 1 + 1 + 1, 0, none⟩ x).setCell ⟨w.heap.size + 1 + 1 + 1, 1, none⟩ y) := (h.2.out.setCell (by show w.heap.size ≤ w.heap.size + 1 + 1 + 1; omega) _).setCell (by show w.heap.size ≤ w.heap.size + 1 + 1 + 1; omega) _
  exact ⟨⟨e _ _ _ _ _ _ (by omega) (e _ _ _ _ _ _ (by omega) h.1.1), e _ _ _ _ _ _ (by omega) (e _ _ _ _ _ _ (by omega) h.1.2.1), e _ _ _ _ _ _ (by omega) (e _ _ _ _ _ _ (by omega) h.1.2.2.1), e _ _ _ _ _ _ (by omega) (e _ _ _ _ _ _ (by omega) h.1.2.2.2.1), e _ _ _ _ _ _ (by omega) (e _ _ _ _ _ _ (by omega) h.1.2.2.2.2.1), hall _ h3⟩, h3⟩
end Go.Proofs.Ytplnppdlabpodaa

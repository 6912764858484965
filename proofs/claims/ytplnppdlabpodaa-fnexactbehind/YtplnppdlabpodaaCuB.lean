/- through, asItLies. Own work. -/
import Derived.Test.YtplnppdlabpodaaMxAG
import Derived.Test.YtplnppdlabpodaaMxAA
import Derived.Deep.RegionHeld3
import Derived.Deep.RegionWith
namespace Go.Proofs.Ytplnppdlabpodaa
open Go.RowKit
set_option maxHeartbeats 4000000

/-- What a walk over a joint holds on to: the cursor's joints, the joint, the box of the seat. -/
abbrev TS (w wx : World) (B : Nat) (sj : Value) (jb jo : Nat) (kd : Int) (nm : ByteArray) (es : Value) (x y z : Int) : Prop :=
  (wx.cell? ⟨B, 4, none⟩ = some sj ∧ wx.cell? ⟨jb, jo, none⟩ = some (.int .i64 kd) ∧ wx.cell? ⟨jb, jo + 1, none⟩ = some (.string nm) ∧ wx.cell? ⟨jb, jo + 2, none⟩ = some es ∧ wx.cell? ⟨w.heap.size, 0, none⟩ = some (.int .i64 x) ∧ wx.cell? ⟨w.heap.size, 1, none⟩ = some (.int .i64 y) ∧ wx.cell? ⟨w.heap.size, 2, none⟩ = some (.int .i64 z)) ∧ Hid (Below w.heap.size w wx)
theorem keepT {w w2 w3 : World} {B : Nat} {sj : Value} {jb jo : Nat} {kd : Int} {nm : ByteArray} {es : Value} {x y z : Int} (hb : Below w2.heap.size w2 w3) (h : TS w w2 B sj jb jo kd nm es x y z) : TS w w3 B sj jb jo kd nm es x y z :=
  ⟨⟨cell_later' hb h.1.1, cell_later' hb h.1.2.1, cell_later' hb h.1.2.2.1, cell_later' hb h.1.2.2.2.1, cell_later' hb h.1.2.2.2.2.1, cell_later' hb h.1.2.2.2.2.2.1, cell_later' hb h.1.2.2.2.2.2.2⟩, h.2.out.trans (hb.mono h.2.out.size)⟩
theorem keepT2 {w w2 : World} {B : Nat} {sj : Value} {jb jo : Nat} {kd : Int} {nm : ByteArray} {es : Value} {x y z : Int} (h : TS w w2 B sj jb jo kd nm es x y z) (hB : B < w.heap.size) (hj : jb < w.heap.size) (v v' : Value) :
    TS w ((w2.setCell ⟨w.heap.size + 1, 0, none⟩ v).setCell ⟨w.heap.size + 1, 1, none⟩ v') B sj jb jo kd nm es x y z := by
  have e : ∀ (W : World) (o : Nat) (v : Value) (b i : Nat) (u : Value), b < w.heap.size + 1 → W.cell? ⟨b, i, none⟩ = some u → (W.setCell ⟨w.heap.size + 1, o, none⟩ v).cell? ⟨b, i, none⟩ = some u := fun W o v b i u hb hu => by
    rw [World.cell?_setCell_far W ⟨w.heap.size + 1, o, none⟩ ⟨b, i, none⟩ v (by show w.heap.size + 1 ≠ b; omega)]; exact hu
  exact ⟨⟨e _ _ _ _ _ _ (by omega) (e _ _ _ _ _ _ (by omega) h.1.1), e _ _ _ _ _ _ (by omega) (e _ _ _ _ _ _ (by omega) h.1.2.1), e _ _ _ _ _ _ (by omega) (e _ _ _ _ _ _ (by omega) h.1.2.2.1), e _ _ _ _ _ _ (by omega) (e _ _ _ _ _ _ (by omega) h.1.2.2.2.1), e _ _ _ _ _ _ (by omega) (e _ _ _ _ _ _ (by omega) h.1.2.2.2.2.1), e _ _ _ _ _ _ (by omega) (e _ _ _ _ _ _ (by omega) h.1.2.2.2.2.2.1), e _ _ _ _ _ _ (by omega) (e _ _ _ _ _ _ (by omega) h.1.2.2.2.2.2.2)⟩, (h.2.out.setCell (by show w.heap.size ≤ w.heap.size + 1; omega) _).setCell (by show w.heap.size ≤ w.heap.size + 1; omega) _⟩

theorem through_any (B n : Nat) (a' : Option Addr) (cap' : Nat) (js : List Jt) (j i : Nat) (z : Int) (L : List (Int × Int)) (w : World) (hj : j < js.length) (h3 : jb3 n js[j] = false) (hi : i < js[j].ends.length) (hL : acr js[j] i = L) (hpos : 0 < L.length) (hc : w.cell? ⟨B, 4, none⟩ = some (.slice a' js.length cap')) (hJ : JtsAt w a' js) :
    Calls Try.prog 160 #[.pointer (some ⟨B, 0, none⟩), .agg #[.int .i64 j, .int .i64 i, .int .i64 z]] w fun e w' => e = .returned (.tuple #[.agg #[.int .i64 L[0].1, .int .i64 L[0].2], .int .i64 0]) ∧ Below w.heap.size w w' := by
  obtain ⟨jb, jo, ea, ec, rfl, d0, d1, d2, dE⟩ := hJ j hj
  have hB := cell_lt hc
  have hjb := cell_lt d0
  have hji : (j : Int) < (js.length : Int) := by omega
  have hp1 : (0 : Int) < (L.length : Int) := by omega
  have HE := hide dE
  have HL := hide hL
  have H3 := hide h3
  clear hJ dE hL h3
  have hbW : Below w.heap.size w ((w.alloc (.cells #[.int .i64 j, .int .i64 i, .int .i64 z] 105)).alloc (.cells #[.int .i64 0, .int .i64 0] 41)) := ((Below.refl _ _).alloc (Nat.le_refl _) _).alloc (by simp) _
  have hTS : TS w ((w.alloc (.cells #[.int .i64 j, .int .i64 i, .int .i64 z] 105)).alloc (.cells #[.int .i64 0, .int .i64 0] 41)) B (.slice (some ⟨jb, jo, none⟩) js.length cap') jb (jo + j * 3) js[j].kind js[j].name (.slice ea js[j].ends.length ec) j i z :=
    ⟨⟨cell_later' hbW hc, cell_later' hbW d0, cell_later' hbW d1, cell_later' hbW d2, by simp [go_sem], by simp [go_sem], by simp [go_sem]⟩, hbW⟩
  have HTS := hide hTS
  have r0 : ((w.alloc (.cells #[.int .i64 j, .int .i64 i, .int .i64 z] 105)).alloc (.cells #[.int .i64 0, .int .i64 0] 41)).cell? ⟨w.heap.size + 1, 0, none⟩ = some (.int .i64 0) := by simp [go_sem]
  have r1 : ((w.alloc (.cells #[.int .i64 j, .int .i64 i, .int .i64 z] 105)).alloc (.cells #[.int .i64 0, .int .i64 0] 41)).cell? ⟨w.heap.size + 1, 1, none⟩ = some (.int .i64 0) := by simp [go_sem]
  have g0 : ((w.alloc (.cells #[.int .i64 j, .int .i64 i, .int .i64 z] 105)).alloc (.cells #[.int .i64 0, .int .i64 0] 41)).frozen? ⟨w.heap.size + 1, 0, none⟩ = false := by simp [go_sem]
  have g1 : ((w.alloc (.cells #[.int .i64 j, .int .i64 i, .int .i64 z] 105)).alloc (.cells #[.int .i64 0, .int .i64 0] 41)).frozen? ⟨w.heap.size + 1, 1, none⟩ = false := by simp [go_sem]
  clear hTS hbW d0 d1 d2 hc
  go_enter Try.func160, Try.ntmps160
  go_upto_region 1 with fail
  generalize ((w.alloc (.cells #[.int .i64 j, .int .i64 i, .int .i64 z] 105)).alloc (.cells #[.int .i64 0, .int .i64 0] 41)) = w1 at *
  obtain ⟨⟨t0, t1, t2, t3, t4, t5, t6⟩, hB1⟩ := HTS.out
  have h11 : Below w1.heap.size w1 w1.drew := (Below.refl _ _).drew
  have HE1 := hide (HE.out.later (hB1.out.trans (h11.mono hB1.out.size)))
  clear HTS
  go_region_with (first
      | (go_at_call 83; refine (over_any n js[j] ea ec i _ H3.out hi HE1.out).mono ?_; rintro e w2 ⟨v, rfl, hNE, hb2⟩; have hb12 := chn h11 hb2; rw [HL.out] at hNE; obtain ⟨ea2, ec2, rfl, hEA, _⟩ := hNE; obtain ⟨eb, eo, rfl, x0, x1⟩ := hEA 0 hpos; have y0 := cell_later' hb12 r0; have y1 := cell_later' hb12 r1; have z0 := frozen_later hb12 r0 g0; have z1 := frozen_later hb12 r1 g1; have HB2 := hide (hB1.out.trans (hb12.mono hB1.out.size)); clear hEA hb12 hb2 r0 r1 g0 g1 t0 t1 t2 t3 t4 t5 t6; simp only [Nat.zero_mul, Nat.add_zero] at x0 x1))
  all_goals
    go_wp2_with fail
    exact bodyPost_ret (v := .tuple #[.agg #[.int .i64 L[0].1, .int .i64 L[0].2], .int .i64 0]) (by simp [results, Try.results160, go_sem, y0, y1]) rfl ⟨rfl, (HB2.out.setCell (by show w.heap.size ≤ w.heap.size + 1; omega) _).setCell (by show w.heap.size ≤ w.heap.size + 1; omega) _⟩
end Go.Proofs.Ytplnppdlabpodaa

/- enter. Own work. -/
import Derived.Test.YthlgdnkbkemcbabMgC
import Derived.Test.YthlgdnkbkemcbabMgD
namespace Go.Proofs.Ythlgdnkbkemcbab
open Go.RowKit
set_option maxHeartbeats 4000000

abbrev ES (w' : World) (bb B pb po : Nat) (k : Nat) (sp : Value) (l : Int) : Prop := w'.cell? ⟨bb, 0, none⟩ = some (.int .i64 k) ∧ w'.cell? ⟨B, 3, none⟩ = some sp ∧ w'.cell? ⟨pb, po, none⟩ = some (.int .i64 l)
theorem ES.put {w' : World} {bb B pb po k : Nat} {sp : Value} {l : Int} (h : ES w' bb B pb po k sp l) (h1 : B < bb) (h2 : pb < B) (x y z : Value) : ES (((w'.setCell ⟨B, 0, none⟩ x).setCell ⟨B, 1, none⟩ y).setCell ⟨B, 2, none⟩ z) bb B pb po k sp l := by
  have e : ∀ (W : World) (o : Nat) (v : Value) (b i : Nat) (u : Value), ¬ B = b → W.cell? ⟨b, i, none⟩ = some u → (W.setCell ⟨B, o, none⟩ v).cell? ⟨b, i, none⟩ = some u := fun W o v b i u hb hu => by
    rw [World.cell?_setCell_far W ⟨B, o, none⟩ ⟨b, i, none⟩ v hb]; exact hu
  refine ⟨e _ _ _ _ _ _ (by omega) (e _ _ _ _ _ _ (by omega) (e _ _ _ _ _ _ (by omega) h.1)), ?_, e _ _ _ _ _ _ (by omega) (e _ _ _ _ _ _ (by omega) (e _ _ _ _ _ _ (by omega) h.2.2))⟩
  have := h.2.1
  simp [go_sem, this]

theorem enter_any {w W : World} {B m n : Nat} {G : Int × Int → Option (Int × Int × Int)} {a : Option Addr} {N : Nt} {cap : Nat} {sj sl : Value} {w' : World} {q a0 wy : Int} {ov : Nat} {u : Value} {ps : List (Int × Int × Int)} (E : Env w W B m n G) (h : CS W B m (.slice a N.pcs.length cap) sj sl w' q a0 wy ov u ps) (k : Nat) (sd : Int) (hk : k < N.pcs.length) (hsd : sd = 0 ∨ sd = 1) (hP : PcsAt w a N.pcs) :
    Calls Try.prog 144 #[.pointer (some ⟨B, 0, none⟩), .agg #[.int .i64 k, .int .i64 sd]] w' fun e w2 =>
    (∃ v, e = .returned v) ∧ CS W B m (.slice a N.pcs.length cap) sj sl w2 (enterP N (k, sd)).1 (enterP N (k, sd)).2.1 (enterP N (k, sd)).2.2 ov u ps ∧ Frm B w' w2 := by
  have hB := cell_lt h.c0
  have HE := hide E
  have hA : Below w'.heap.size w' (w'.alloc (.cells #[.int .i64 k, .int .i64 sd] 121)) := (Below.refl _ _).alloc (Nat.le_refl _) _
  have HCA := hide (h.later hA)
  have HFA := hide (Frm.of_below (B := B) hA)
  have b0 := new_cell w' #[.int .i64 k, .int .i64 sd] 121 0 _ rfl
  have b1 := new_cell w' #[.int .i64 k, .int .i64 sd] 121 1 _ rfl
  have HP := hide hP
  clear hP h hA E
  go_enter Try.func144, Try.ntmps144
  go_upto_region 1 with fail
  generalize w'.alloc (.cells #[.int .i64 k, .int .i64 sd] 121) = wA at *
  generalize w'.heap.size = bb at *
  have c0 := HCA.out.c0
  have c1 := HCA.out.c1
  have c2 := HCA.out.c2
  have f0 := HCA.out.fz 0
  have f1 := HCA.out.fz 1
  have f2 := HCA.out.fz 2
  have HCB := hide (HCA.out.setSpot (k : Int) 0 1)
  have HFB := hide (((HFA.out.trans (Frm.set B wA 0 (.int .i64 k))).trans (Frm.set B _ 1 (.int .i64 0))).trans (Frm.set B _ 2 (.int .i64 1)))
  have e : ∀ (W : World) (o : Nat) (v : Value) (i : Nat) (u : Value), W.cell? ⟨bb, i, none⟩ = some u → (W.setCell ⟨B, o, none⟩ v).cell? ⟨bb, i, none⟩ = some u := fun W o v i u hu => by
    rw [World.cell?_setCell_far W ⟨B, o, none⟩ ⟨bb, i, none⟩ v (by show B ≠ bb; omega)]; exact hu
  have b0' := e _ 2 (.int .i64 1) _ _ (e _ 1 (.int .i64 0) _ _ (e _ 0 (.int .i64 k) _ _ b0))
  have b1' := e _ 2 (.int .i64 1) _ _ (e _ 1 (.int .i64 0) _ _ (e _ 0 (.int .i64 k) _ _ b1))
  clear e b1 HCA HFA
  go_upto_region 2 with fail
  generalize (((wA.setCell ⟨B, 0, none⟩ (.int .i64 k)).setCell ⟨B, 1, none⟩ (.int .i64 0)).setCell ⟨B, 2, none⟩ (.int .i64 1)) = wS at *
  clear b0 c0 c1 c2 f0 f1 f2
  rcases hsd with rfl | rfl
  · go_wp2_with fail
    go_end0
    exact ⟨⟨_, rfl⟩, HCB.out, HFB.out⟩
  · have hki : (k : Int) < (N.pcs.length : Int) := by omega
    obtain ⟨pb, po, rfl, _, p1, _, _⟩ := HP.out k hk
    have hpb := cell_lt p1
    have p1 := cell_later' (HCB.out.below HE.out) p1
    have hpB : pb < B := Nat.lt_of_lt_of_le hpb HE.out.wB
    have c0 := HCB.out.c0
    have c1 := HCB.out.c1
    have c2 := HCB.out.c2
    have c3 := HCB.out.c3
    have f0 := HCB.out.fz 0
    have f1 := HCB.out.fz 1
    have f2 := HCB.out.fz 2
    have HEN := hide (show enterP N (k, 1) = ((k : Int), N.pcs[k].len, -1) by simp [enterP, lenAt_nat N k hk])
    have hdr : Below wS.heap.size wS wS.drew := (Below.refl _ _).drew
    have HC2 := hide ((HCB.out.later hdr).setSpot (k : Int) N.pcs[k].len (-1))
    have HF2 := hide ((((HFB.out.trans (Frm.of_below hdr)).trans (Frm.set B _ 0 (.int .i64 k))).trans (Frm.set B _ 1 (.int .i64 N.pcs[k].len))).trans (Frm.set B _ 2 (.int .i64 (-1))))
    have HES : Hid (ES wS.drew bb B pb (po + k * 4 + 1) k (.slice (some ⟨pb, po, none⟩) N.pcs.length cap) N.pcs[k].len) := ⟨b0', c3, p1⟩
    clear hdr
    go_upto_region 3 with fail
    go_region_held3 (fun wx => ES wx bb B pb (po + k * 4 + 1) k (.slice (some ⟨pb, po, none⟩) N.pcs.length cap) N.pcs[k].len)
      (first
        | (exact HES.out)
        | (exact ES.put HES.out hB hpB _ _ _))
      (fail)
    go_wp2_with fail
    go_end0
    exact ⟨⟨_, rfl⟩, by rw [HEN.out]; exact HC2.out, HF2.out⟩
end Go.Proofs.Ythlgdnkbkemcbab

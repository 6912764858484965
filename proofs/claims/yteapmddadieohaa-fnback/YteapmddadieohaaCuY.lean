/- drive, impl.Drive. Own work. -/
import Derived.Test.YteapmddadieohaaMxAW
import Derived.Test.YteapmddadieohaaDrA
import Derived.BigRegion
namespace Go.Proofs.Yteapmddadieohaa
open Go.RowKit
set_option maxHeartbeats 4000000
set_option linter.unusedSimpArgs false

theorem Zero9.later_d {w w1 : World} {T : TypeId} (hb : Below (w.alloc (.cells zero9 T)).drew.heap.size (w.alloc (.cells zero9 T)).drew w1) : Zero9 w1 w.heap.size ∧ ∀ i, w1.frozen? ⟨w.heap.size, i, none⟩ = false :=
  ⟨⟨⟨box_cell_d hb 0 _ rfl, box_cell_d hb 1 _ rfl, box_cell_d hb 2 _ rfl, box_cell_d hb 3 _ rfl, box_cell_d hb 4 _ rfl, box_cell_d hb 5 _ rfl, box_cell_d hb 6 _ rfl, box_cell_d hb 7 _ rfl, box_cell_d hb 8 _ rfl⟩, box_frozen_d hb 0, box_frozen_d hb 1, box_frozen_d hb 2, box_frozen_d hb 3, box_frozen_d hb 4, box_frozen_d hb 5, box_frozen_d hb 6, box_frozen_d hb 7, box_frozen_d hb 8⟩, fun i => box_frozen_d hb i⟩
theorem set9_far {w : World} {b B i : Nat} {u : Value} (h : w.cell? ⟨B, i, none⟩ = some u) (hB : B < b) (q a wy : Int) (sp sj sl : Value) (m : Nat) : (set9 w b q a wy sp sj sl m).cell? ⟨B, i, none⟩ = some u := by
  have e : ∀ (W : World) (o : Nat) (v : Value), W.cell? ⟨B, i, none⟩ = some u → (W.setCell ⟨b, o, none⟩ v).cell? ⟨B, i, none⟩ = some u := fun W o v hu => by
    rw [World.cell?_setCell_far W ⟨b, o, none⟩ ⟨B, i, none⟩ v (by show b ≠ B; omega)]; exact hu
  exact e _ _ _ (e _ _ _ (e _ _ _ (e _ _ _ (e _ _ _ (e _ _ _ (e _ _ _ (e _ _ _ (e _ _ _ h))))))))
theorem keepS9 {w w2 : World} {v0 v1 : Value} {q at' way : Int} {b : Nat} (h : LS w w w2 v0 v1 q at' way) (hb : w.heap.size + 1 < b) (q' a' wy' : Int) (sp sj sl : Value) (m : Nat) : LS w w (set9 w2 b q' a' wy' sp sj sl m) v0 v1 q at' way :=
  ⟨⟨set9_far h.1.1 (by omega) _ _ _ _ _ _ _, set9_far h.1.2.1 (by omega) _ _ _ _ _ _ _, set9_far h.1.2.2.1 (by omega) _ _ _ _ _ _ _, set9_far h.1.2.2.2.1 (by omega) _ _ _ _ _ _ _, set9_far h.1.2.2.2.2 (by omega) _ _ _ _ _ _ _⟩, set9_below h.2.out (by omega) _ _ _ _ _ _ _⟩
theorem se_set9 {w : World} {b m n : Nat} {G : Int × Int → Option (Int × Int × Int)} (h : SE w m n G) (hne : m ≠ b) (q a wy : Int) (sp sj sl : Value) (k : Nat) : SE (set9 w b q a wy sp sj sl k) m n G :=
  ((((((((h.of_block (Below.heap_setCell _ _ _ _ hne)).of_block (Below.heap_setCell _ _ _ _ hne)).of_block (Below.heap_setCell _ _ _ _ hne)).of_block (Below.heap_setCell _ _ _ _ hne)).of_block (Below.heap_setCell _ _ _ _ hne)).of_block (Below.heap_setCell _ _ _ _ hne)).of_block (Below.heap_setCell _ _ _ _ hne)).of_block (Below.heap_setCell _ _ _ _ hne)).of_block (Below.heap_setCell _ _ _ _ hne)

theorem good_not1 {N : Nt} {xs : List Int} {q at' way far : Int} (h : spotOkP N q at' way = false) : goodP N xs q at' way far = false := by
  simp only [spotOkP, Bool.and_eq_false_iff] at h
  rcases h with h | h <;> simp [goodP, h]
theorem good_not2 {N : Nt} {xs : List Int} {q at' way far : Int} (h : liesP N.jts xs = false) : goodP N xs q at' way far = false := by simp [goodP, h]
theorem good_not3 {N : Nt} {xs : List Int} {q at' way far : Int} (h : inR far 0 1000000 = false) : goodP N xs q at' way far = false := by simp [goodP, h]
theorem good_yes {N : Nt} {xs : List Int} {q at' way far : Int} (h1 : spotOkP N q at' way = true) (h2 : liesP N.jts xs = true) (h3 : inR far 0 1000000 = true) : goodP N xs q at' way far = true := by
  simp only [spotOkP, Bool.and_eq_true] at h1
  simp [goodP, h1.1, h1.2, h2, h3]

/-- What drive tells: Driven, and the parts. -/
def DrvQ (N : Nt) (xs : List Int) (w : World) (q at' way far : Int) (e : Ending) (w' : World) : Prop :=
  ∃ (r : DRes) (v : Value), DriveA N xs q at' way far ⟨r.code, r.far, r.joint, r.q, r.at', r.way, []⟩ ∧ AheadR N xs q at' way far r.ps ∧ e = .returned (.tuple #[.agg #[.int .i64 r.code, .int .i64 r.far, .int .i64 r.joint, .int .i64 r.q, .int .i64 r.at', .int .i64 r.way], v]) ∧ w'.ownsRow w.heap.size 79 3 v r.ps.length (partCells r.ps) ∧ Below w.heap.size w w'
theorem drvQ_bad {N : Nt} {xs : List Int} {q at' way far : Int} (h : goodP N xs q at' way far = false) : DriveA N xs q at' way far ⟨4, 0, 0, 0, 0, 0, []⟩ ∧ AheadR N xs q at' way far [] := by
  unfold DriveA AheadR
  rw [h]
  exact ⟨rfl, rfl⟩
/-- What the return of drive reads. -/
abbrev D5 (wx : World) (b B : Nat) (cd f jn q2 a2 y2 : Int) (u : Value) : Prop := (wx.cell? ⟨b, 0, none⟩ = some (.int .i64 cd) ∧ wx.cell? ⟨b, 1, none⟩ = some (.int .i64 f) ∧ wx.cell? ⟨b, 2, none⟩ = some (.int .i64 jn) ∧ wx.cell? ⟨b, 3, none⟩ = some (.int .i64 q2) ∧ wx.cell? ⟨b, 4, none⟩ = some (.int .i64 a2) ∧ wx.cell? ⟨b, 5, none⟩ = some (.int .i64 y2)) ∧ wx.cell? ⟨B, 8, none⟩ = some u
theorem D5.put {wx : World} {b B : Nat} {cd f jn q2 a2 y2 : Int} {u : Value} (h : D5 wx b B cd f jn q2 a2 y2 u) {c : Nat} (h1 : c < b) (h2 : c < B) (v0 v1 v2 v3 v4 v5 : Value) : D5 ((((((wx.setCell ⟨c, 0, none⟩ v0).setCell ⟨c, 1, none⟩ v1).setCell ⟨c, 2, none⟩ v2).setCell ⟨c, 3, none⟩ v3).setCell ⟨c, 4, none⟩ v4).setCell ⟨c, 5, none⟩ v5) b B cd f jn q2 a2 y2 u := by
  have e : ∀ (W : World) (o : Nat) (v : Value) (d i : Nat) (u : Value), c < d → W.cell? ⟨d, i, none⟩ = some u → (W.setCell ⟨c, o, none⟩ v).cell? ⟨d, i, none⟩ = some u := fun W o v d i u hd hu => by
    rw [World.cell?_setCell_far W ⟨c, o, none⟩ ⟨d, i, none⟩ v (by show c ≠ d; omega)]; exact hu
  have g : ∀ (d i : Nat) (u : Value), c < d → wx.cell? ⟨d, i, none⟩ = some u → ((((((wx.setCell ⟨c, 0, none⟩ v0).setCell ⟨c, 1, none⟩ v1).setCell ⟨c, 2, none⟩ v2).setCell ⟨c, 3, none⟩ v3).setCell ⟨c, 4, none⟩ v4).setCell ⟨c, 5, none⟩ v5).cell? ⟨d, i, none⟩ = some u := fun d i u hd hu =>
    e _ _ _ _ _ _ hd (e _ _ _ _ _ _ hd (e _ _ _ _ _ _ hd (e _ _ _ _ _ _ hd (e _ _ _ _ _ _ hd (e _ _ _ _ _ _ hd hu)))))
  exact ⟨⟨g _ _ _ h1 h.1.1, g _ _ _ h1 h.1.2.1, g _ _ _ h1 h.1.2.2.1, g _ _ _ h1 h.1.2.2.2.1, g _ _ _ h1 h.1.2.2.2.2.1, g _ _ _ h1 h.1.2.2.2.2.2⟩, g _ _ _ h2 h.2⟩
theorem D5.drew {wx : World} {b B : Nat} {cd f jn q2 a2 y2 : Int} {u : Value} (h : D5 wx b B cd f jn q2 a2 y2 u) : D5 wx.drew b B cd f jn q2 a2 y2 u := h
theorem owns6 {wx : World} {base : Nat} {T : TypeId} {v : Value} {n : Nat} {l : List Value} (h : wx.ownsRow base T 3 v n l) {c base' : Nat} (hc : c < base) (hb : base' ≤ base) (v0 v1 v2 v3 v4 v5 : Value) : ((((((wx.setCell ⟨c, 0, none⟩ v0).setCell ⟨c, 1, none⟩ v1).setCell ⟨c, 2, none⟩ v2).setCell ⟨c, 3, none⟩ v3).setCell ⟨c, 4, none⟩ v4).setCell ⟨c, 5, none⟩ v5).ownsRow base' T 3 v n l :=
  owns_low (ownsRow_setCell_below (ownsRow_setCell_below (ownsRow_setCell_below (ownsRow_setCell_below (ownsRow_setCell_below (ownsRow_setCell_below h hc _) hc _) hc _) hc _) hc _) hc _) hb

theorem drive_any (a a' z : Option Addr) (N : Nt) (cap cap' zc : Nat) (xs : List Int) (q at' way far : Int) (w : World) (hwf : Wf3 q at' way) (hn : N.pcs.length ≤ 1048576) (hs : ∀ p ∈ N.pcs, p.name.size ≤ 1048576) (hl : N.jts.length ≤ 1048576) (hm : ∀ j ∈ N.jts, j.name.size ≤ 1048576 ∧ j.ends.length ≤ 1048576) (hp : PcsAt w a N.pcs) (hj : JtsAt w a' N.jts) (hz : IntsAt w z xs) :
    Calls Try.prog 21 #[.agg #[.slice a N.pcs.length cap, .slice a' N.jts.length cap'], .slice z xs.length zc, .agg #[.int .i64 q, .int .i64 at', .int .i64 way], .int .i64 far] w fun e w' => DrvQ N xs w q at' way far e w' := by
  have HP := hide hp
  have HJ := hide hj
  have HZ := hide hz
  have HM := hide hm
  have HS := hide hs
  have HWF := hide hwf
  clear hp hj hz hm hs hwf
  have hbW : Below w.heap.size w (((w.alloc (.cells #[.slice a N.pcs.length cap, .slice a' N.jts.length cap'] 26)).alloc (.cells #[.int .i64 q, .int .i64 at', .int .i64 way] 29)).alloc (.cells #[.int .i64 0, .int .i64 0, .int .i64 0, .int .i64 0, .int .i64 0, .int .i64 0] 35)) := (((Below.refl _ _).alloc (Nat.le_refl _) _).alloc (by simp) _).alloc (by simp; omega) _
  have hLS : LS w w (((w.alloc (.cells #[.slice a N.pcs.length cap, .slice a' N.jts.length cap'] 26)).alloc (.cells #[.int .i64 q, .int .i64 at', .int .i64 way] 29)).alloc (.cells #[.int .i64 0, .int .i64 0, .int .i64 0, .int .i64 0, .int .i64 0, .int .i64 0] 35)) (.slice a N.pcs.length cap) (.slice a' N.jts.length cap') q at' way :=
    ⟨⟨by simp [go_sem], by simp [go_sem], by simp [go_sem], by simp [go_sem], by simp [go_sem]⟩, hbW⟩
  have hS6 := six_new ((w.alloc (.cells #[.slice a N.pcs.length cap, .slice a' N.jts.length cap'] 26)).alloc (.cells #[.int .i64 q, .int .i64 at', .int .i64 way] 29)) 35
  rw [show ((w.alloc (.cells #[.slice a N.pcs.length cap, .slice a' N.jts.length cap'] 26)).alloc (.cells #[.int .i64 q, .int .i64 at', .int .i64 way] 29)).heap.size = w.heap.size + 1 + 1 by simp] at hS6
  go_enter Try.func21, Try.ntmps21
  go_upto_region 1 with fail
  generalize (((w.alloc (.cells #[.slice a N.pcs.length cap, .slice a' N.jts.length cap'] 26)).alloc (.cells #[.int .i64 q, .int .i64 at', .int .i64 way] 29)).alloc (.cells #[.int .i64 0, .int .i64 0, .int .i64 0, .int .i64 0, .int .i64 0, .int .i64 0] 35)) = w1 at *
  obtain ⟨⟨t0, t1, e0, e1, e2⟩, _⟩ := hLS
  have H6 := hide hS6
  clear hS6
  go_wp2_with fail
  refine (implSpotOk_any a a' N cap cap' q at' way _ HWF.out hn HS.out hl HM.out (HP.out.later hbW) (HJ.out.later hbW)).mono ?_
  rintro e w2 ⟨rfl, hb2⟩
  have hbW := hbW.trans (hb2.mono hbW.size)
  have t0 := cell_later' hb2 t0
  have t1 := cell_later' hb2 t1
  have e0 := cell_later' hb2 e0
  have e1 := cell_later' hb2 e1
  have e2 := cell_later' hb2 e2
  have H6 := hide (H6.out.later hb2)
  clear hb2
  cases hok : spotOkP N q at' way
  · have HG := hide (drvQ_bad (good_not1 (xs := xs) (far := far) hok))
    obtain ⟨r0, r1, r2, r3, r4, r5, g0, g1, g2, g3, g4, g5⟩ := H6.out
    clear hok
    go_wp2_with fail
    refine bodyPost_ret (v := .tuple #[.agg #[.int .i64 4, .int .i64 0, .int .i64 0, .int .i64 0, .int .i64 0, .int .i64 0], .slice none 0 0]) (by simp [results, Try.results21, go_sem, r0, r1, r2, r3, r4, r5]) rfl ?_
    exact ⟨⟨4, 0, 0, 0, 0, 0, []⟩, _, HG.out.1, HG.out.2, rfl, World.ownsRow_nil _ _ _ _, below6 hbW _ _ _ _ _ _⟩
  have HOK := hide hok
  clear hok
  go_wp2_with fail
  refine (liesOk_any a' z cap' zc N.jts xs _ hl (HJ.out.later hbW) (HZ.out.later hbW)).mono ?_
  rintro e w3 ⟨rfl, hb2⟩
  have hbW := hbW.trans (hb2.mono hbW.size)
  have t0 := cell_later' hb2 t0
  have t1 := cell_later' hb2 t1
  have e0 := cell_later' hb2 e0
  have e1 := cell_later' hb2 e1
  have e2 := cell_later' hb2 e2
  have H6 := hide (H6.out.later hb2)
  clear hb2
  cases hli : liesP N.jts xs
  · have HG := hide (drvQ_bad (good_not2 (q := q) (at' := at') (way := way) (far := far) hli))
    obtain ⟨r0, r1, r2, r3, r4, r5, g0, g1, g2, g3, g4, g5⟩ := H6.out
    clear hli
    go_wp2_with fail
    refine bodyPost_ret (v := .tuple #[.agg #[.int .i64 4, .int .i64 0, .int .i64 0, .int .i64 0, .int .i64 0, .int .i64 0], .slice none 0 0]) (by simp [results, Try.results21, go_sem, r0, r1, r2, r3, r4, r5]) rfl ?_
    exact ⟨⟨4, 0, 0, 0, 0, 0, []⟩, _, HG.out.1, HG.out.2, rfl, World.ownsRow_nil _ _ _ _, below6 hbW _ _ _ _ _ _⟩
  have HLI := hide hli
  clear hli
  go_wp2_with fail
  cases hfr : inR far 0 1000000
  · have HFR := hide hfr
    have HG := hide (drvQ_bad (good_not3 (N := N) (xs := xs) (q := q) (at' := at') (way := way) hfr))
    obtain ⟨r0, r1, r2, r3, r4, r5, g0, g1, g2, g3, g4, g5⟩ := H6.out
    clear hfr
    refine (inRange_b HFR.out _).mono ?_
    rintro e w4 ⟨rfl, rfl⟩
    go_wp2_with fail
    refine bodyPost_ret (v := .tuple #[.agg #[.int .i64 4, .int .i64 0, .int .i64 0, .int .i64 0, .int .i64 0, .int .i64 0], .slice none 0 0]) (by simp [results, Try.results21, go_sem, r0, r1, r2, r3, r4, r5]) rfl ?_
    exact ⟨⟨4, 0, 0, 0, 0, 0, []⟩, _, HG.out.1, HG.out.2, rfl, World.ownsRow_nil _ _ _ _, below6 hbW _ _ _ _ _ _⟩
  have HFR := hide hfr
  have HGD := hide (good_yes HOK.out HLI.out hfr)
  have hga := good_all HGD.out
  have HRT := hide hga.1
  have HSP := hide hga.2.2.1
  have hfar := hga.2.2.2
  clear hfr hga
  refine (inRange_b HFR.out _).mono ?_
  rintro e w4 ⟨rfl, rfl⟩
  have HLS3 : Hid (LS w w w3 (.slice a N.pcs.length cap) (.slice a' N.jts.length cap') q at' way) := ⟨⟨t0, t1, e0, e1, e2⟩, hbW⟩
  have hz3 := cell_lt H6.out.c0
  have HW := hide (ends_wf hn (right_facts HRT.out).2.2.1)
  have HME := hide (fun j (hj : j ∈ N.jts) => (HM.out j hj).2)
  clear t0 t1 e0 e1 e2
  go_upto_region 3 with fail
  go_cut [10] (fun s10 wx => ∃ B m n : Nat, s10 = .pointer (some ⟨B, 0, none⟩) ∧ Env w3 wx B m n (seatTo N.jts N.jts.length) ∧ CS wx B m (.slice a N.pcs.length cap) (.slice a' N.jts.length cap') (.slice z xs.length zc) wx q at' way 0 (.slice none 0 0) [])
  case first =>
    refine wp_region_held_drew (S := fun wx => LS w w wx (.slice a N.pcs.length cap) (.slice a' N.jts.length cap') q at' way) (by kernel_rfl) ?_ (fun _ => ?_)
    · exact keepL ((Below.refl w3.heap.size w3).drew) HLS3.out
    refine wpAnyH_take (i := 0) (v := ?v0) rfl (by kernel_rfl) (by kernel_rfl) (by kernel_rfl) (fun _ _ _ h => h) (Or.inl ⟨by rfl, ?hy0⟩) (by assumption) ?rest0
    case hy0 => (intro w hSw; (try dsimp only at hSw); go_simp; try with_reducible rfl)
    try simp only [List.getElem_toArray, List.getElem_cons_succ, List.getElem_cons_zero, Act.put, List.setIfInBounds_toArray, List.set_cons_zero, List.set_cons_succ]
    refine wpAnyH_take (i := 1) (v := ?v1) rfl (by kernel_rfl) (by kernel_rfl) (by kernel_rfl) (fun _ _ _ h => h) (Or.inl ⟨by rfl, ?hy1⟩) (by assumption) ?rest1
    case hy1 => (intro w hSw; (try dsimp only at hSw); go_simp; try with_reducible rfl)
    try simp only [List.getElem_toArray, List.getElem_cons_succ, List.getElem_cons_zero, Act.put, List.setIfInBounds_toArray, List.set_cons_zero, List.set_cons_succ]
    refine wpAnyH_take (i := 2) (v := ?v2) rfl (by kernel_rfl) (by kernel_rfl) (by kernel_rfl) (fun _ _ _ h => h) (Or.inl ⟨by rfl, ?hy2⟩) (by assumption) ?rest2
    case hy2 => (intro w hSw; (try dsimp only at hSw); go_simp; try with_reducible rfl)
    try simp only [List.getElem_toArray, List.getElem_cons_succ, List.getElem_cons_zero, Act.put, List.setIfInBounds_toArray, List.set_cons_zero, List.set_cons_succ]
    refine wpAnyH_take (i := 3) (v := ?v3) rfl (by kernel_rfl) (by kernel_rfl) (by kernel_rfl) (fun _ _ _ h => h) (Or.inl ⟨by rfl, ?hy3⟩) (by assumption) ?rest3
    case hy3 => (intro w hSw; (try dsimp only at hSw); go_simp; try with_reducible rfl)
    try simp only [List.getElem_toArray, List.getElem_cons_succ, List.getElem_cons_zero, Act.put, List.setIfInBounds_toArray, List.set_cons_zero, List.set_cons_succ]
    refine wpAnyH_take (i := 4) (v := ?v4) rfl (by kernel_rfl) (by kernel_rfl) (by kernel_rfl) (fun _ _ _ h => h) (Or.inl ⟨by rfl, ?hy4⟩) (by assumption) ?rest4
    case hy4 => (intro w hSw; (try dsimp only at hSw); go_simp; try with_reducible rfl)
    try simp only [List.getElem_toArray, List.getElem_cons_succ, List.getElem_cons_zero, Act.put, List.setIfInBounds_toArray, List.set_cons_zero, List.set_cons_succ]
    refine wpAnyH_ready (rs := [5, 7]) (by kernel_rfl) (by simp) ?_
    refine AllReadyH.cons rfl (fun K hK => ?_) (AllReadyH.cons rfl (fun K hK => ?_) AllReadyH.nil)
    · go_simp
      go_at_call 30
      refine (seatsOf_any a' cap' N.jts _ hl HME.out HW.out (HJ.out.later (heldB (keepL ((Below.refl w3.heap.size w3).drew) HLS3.out)))).mono ?_
      rintro e w5 ⟨rfl, ⟨mm, hSE⟩, hb5⟩
      have HSE := hide hSE
      have HB5 := hide hb5
      have HS5 : Hid (LS w w w5 (.slice a N.pcs.length cap) (.slice a' N.jts.length cap') q at' way) := keepL hb5 (keepL ((Below.refl w3.heap.size w3).drew) HLS3.out)
      clear hSE hb5
      go_wp2_with fail
      refine hK.out _ _ ?_ (fun _ => ?_)
      · exact HS5.out
      clear hK K
      try simp only [List.getElem_toArray, List.getElem_cons_succ, List.getElem_cons_zero, Act.put, List.setIfInBounds_toArray, List.set_cons_zero, List.set_cons_succ]
      refine wpAnyH_take (i := 6) (v := ?v5) rfl (by kernel_rfl) (by kernel_rfl) (by kernel_rfl) (fun _ _ _ h => h) (Or.inl ⟨by rfl, ?hy5⟩) (by assumption) ?rest5
      case hy5 => (intro w hSw; (try dsimp only at hSw); go_simp; try with_reducible rfl)
      try simp only [List.getElem_toArray, List.getElem_cons_succ, List.getElem_cons_zero, Act.put, List.setIfInBounds_toArray, List.set_cons_zero, List.set_cons_succ]
      refine wpAnyH_ready (rs := [7]) (by kernel_rfl) (by simp) ?_
      refine AllReadyH.cons rfl (fun K hK => ?_) AllReadyH.nil
      go_simp
      refine hK.out _ _ ?_ (fun _ => ?_)
      · exact keepL ((Below.refl w5.heap.size w5).alloc (Nat.le_refl _) _) HS5.out
      clear hK K
      try simp only [List.getElem_toArray, List.getElem_cons_succ, List.getElem_cons_zero, Act.put, List.setIfInBounds_toArray, List.set_cons_zero, List.set_cons_succ]
      refine wpAnyH_ready (rs := [8]) (by kernel_rfl) (by simp) ?_
      refine AllReadyH.cons rfl (fun K hK => ?_) AllReadyH.nil
      go_simp
      refine hK.out _ _ ?_ (fun _ => ?_)
      · exact keepL ((Below.refl w5.heap.size w5).alloc (Nat.le_refl _) _) HS5.out
      clear hK K
      try simp only [List.getElem_toArray, List.getElem_cons_succ, List.getElem_cons_zero, Act.put, List.setIfInBounds_toArray, List.set_cons_zero, List.set_cons_succ]
      refine wpAnyH_done (by kernel_rfl) ?_ _
      go_wp2_with fail
      go_meet
      have hlt5 := HSE.out.lt
      have hsz := HB5.out.size
      simp only [World.size_drew] at hlt5 hsz
      refine ⟨w5.heap.size, w3.heap.size, mm, rfl, ⟨?_, hsz, by simp, HSE.out.of_block (Below.heap_alloc _ _ _ HSE.out.lt), by omega⟩, cs_new w5 _ _ _ _ _ _ _ _⟩
      exact chn (chn ((Below.refl w3.heap.size w3).drew) HB5.out) ((Below.refl _ _).alloc (Nat.le_refl _) _)
    · go_simp
      refine hK.out _ _ ?_ (fun _ => ?_)
      · exact keepL (((Below.refl w3.heap.size w3).alloc (Nat.le_refl _) _).drew) HLS3.out
      clear hK K
      try simp only [List.getElem_toArray, List.getElem_cons_succ, List.getElem_cons_zero, Act.put, List.setIfInBounds_toArray, List.set_cons_zero, List.set_cons_succ]
      refine wpAnyH_ready (rs := [5]) (by kernel_rfl) (by simp) ?_
      refine AllReadyH.cons rfl (fun K hK => ?_) AllReadyH.nil
      go_simp
      go_at_call 30
      refine (seatsOf_any a' cap' N.jts _ hl HME.out HW.out (HJ.out.later (heldB (keepL (((Below.refl w3.heap.size w3).alloc (Nat.le_refl _) _).drew) HLS3.out)))).mono ?_
      rintro e w5 ⟨rfl, ⟨mm, hSE⟩, hb5⟩
      have HSE := hide hSE
      have HB5 := hide hb5
      have HS5 : Hid (LS w w w5 (.slice a N.pcs.length cap) (.slice a' N.jts.length cap') q at' way) := keepL hb5 (keepL (((Below.refl w3.heap.size w3).alloc (Nat.le_refl _) _).drew) HLS3.out)
      obtain ⟨y9, zz⟩ : Zero9 w5 w3.heap.size ∧ (∀ i, w5.frozen? ⟨w3.heap.size, i, none⟩ = false) := by with_reducible exact Zero9.later_d (w := w3) (T := 69) hb5
      have Y9 := hide y9
      have ZZ := hide zz
      clear hSE hb5 zz y9
      go_wp2_with fail
      refine hK.out _ _ ?_ (fun _ => ?_)
      · exact HS5.out
      clear hK K
      try simp only [List.getElem_toArray, List.getElem_cons_succ, List.getElem_cons_zero, Act.put, List.setIfInBounds_toArray, List.set_cons_zero, List.set_cons_succ]
      refine wpAnyH_take (i := 6) (v := ?v6) rfl (by kernel_rfl) (by kernel_rfl) (by kernel_rfl) (fun _ _ _ h => h) (Or.inl ⟨by rfl, ?hy6⟩) (by assumption) ?rest6
      case hy6 => (intro w hSw; (try dsimp only at hSw); go_simp; try with_reducible rfl)
      try simp only [List.getElem_toArray, List.getElem_cons_succ, List.getElem_cons_zero, Act.put, List.setIfInBounds_toArray, List.set_cons_zero, List.set_cons_succ]
      obtain ⟨⟨y0, y1, y2, y3, y4, y5, y6, y7, y8⟩, z0, z1, z2, z3, z4, z5, z6, z7, z8⟩ := Y9.out
      refine wpAnyH_ready (rs := [8]) (by kernel_rfl) (by simp) ?_
      refine AllReadyH.cons rfl (fun K hK => ?_) AllReadyH.nil
      rw [if_pos (by rfl)]
      simp only [List.getElem_toArray, List.getElem_cons_succ, List.getElem_cons_zero]
      go_big_op
      refine hK.out _ _ ?_ (fun _ => ?_)
      · exact keepS9 HS5.out (by omega) _ _ _ _ _ _ _
      clear hK K
      try simp only [List.getElem_toArray, List.getElem_cons_succ, List.getElem_cons_zero, Act.put, List.setIfInBounds_toArray, List.set_cons_zero, List.set_cons_succ]
      refine wpAnyH_done (by kernel_rfl) ?_ _
      go_wp2_with fail
      go_meet
      have hlt5 := HSE.out.lt
      have hsz := HB5.out.size
      simp only [World.size_drew, World.size_alloc] at hlt5 hsz
      refine ⟨w3.heap.size, w3.heap.size + 1, mm, rfl, ⟨?_, Nat.le_refl _, by simp; omega, ?_, by omega⟩, cs_put Y9.out ZZ.out _ _ _ _ _ _ _⟩
      · exact set9_below (chn (((Below.refl w3.heap.size w3).alloc (Nat.le_refl _) _).drew) HB5.out) (Nat.le_refl _) _ _ _ _ _ _ _
      · exact se_set9 (by have h := HSE.out; simp only [World.size_drew, World.size_alloc] at h; exact h) (by omega) _ _ _ _ _ _ _
  case rest =>
    obtain ⟨B, m, n, rfl, hE, hC⟩ := hcut
    rename World => w6
    have HE := hide hE
    have HC := hide hC
    have hBlt : w.heap.size + 1 + 1 < B := Nat.lt_of_lt_of_le hz3 hE.wB
    clear hE hC
    go_wp2_with fail
    refine (run_any far HE.out HC.out HRT.out HLI.out HSP.out hfar hn (HP.out.later hbW) (HJ.out.later hbW) (HZ.out.later hbW)).mono ?_
    rintro e w7 ⟨⟨cd, f, jn, q2, a2, y2, ps2⟩, hDR, _, rfl, hb7, u, hc8, how⟩
    have HDA := hide (show DriveA N xs q at' way far ⟨cd, f, jn, q2, a2, y2, []⟩ by unfold DriveA; rw [if_pos HGD.out]; exact ⟨_, hDR, rfl⟩)
    have HAR := hide (show AheadR N xs q at' way far ps2 by unfold AheadR; rw [if_pos HGD.out]; exact ⟨_, hDR, rfl⟩)
    have HB7 := hide (hbW.trans (hb7.mono hbW.size))
    have H67 := hide (H6.out.later hb7)
    have HOW := hide how
    have hz7 := hb7.size
    have hB7 := cell_lt hc8
    clear hDR hb7 how
    dsimp only
    go_upto_region 5 with fail
    have hA : Below w7.heap.size w7 (w7.alloc (.cells #[.int .i64 cd, .int .i64 f, .int .i64 jn, .int .i64 q2, .int .i64 a2, .int .i64 y2] 35)) := (Below.refl _ _).alloc (Nat.le_refl _) _
    have HD5 : Hid (D5 (w7.alloc (.cells #[.int .i64 cd, .int .i64 f, .int .i64 jn, .int .i64 q2, .int .i64 a2, .int .i64 y2] 35)) w7.heap.size B cd f jn q2 a2 y2 u) :=
      ⟨⟨new_cell w7 _ _ 0 _ rfl, new_cell w7 _ _ 1 _ rfl, new_cell w7 _ _ 2 _ rfl, new_cell w7 _ _ 3 _ rfl, new_cell w7 _ _ 4 _ rfl, new_cell w7 _ _ 5 _ rfl⟩, cell_later' hA hc8⟩
    have H68 := hide (H67.out.later hA)
    have HB8 := hide (HB7.out.trans (hA.mono HB7.out.size))
    have HOW8 := hide (owns_later' HOW.out hA)
    clear hA hc8 HOW H67
    generalize w7.alloc (.cells #[.int .i64 cd, .int .i64 f, .int .i64 jn, .int .i64 q2, .int .i64 a2, .int .i64 y2] 35) = w8 at *
    generalize hbb : w7.heap.size = bb at *
    refine wp_region_held_drew (S := fun wx => D5 wx bb B cd f jn q2 a2 y2 u) (by kernel_rfl) HD5.out.drew (fun _ => ?_)
    refine wpAnyH_take (i := 0) (v := ?v7) rfl (by kernel_rfl) (by kernel_rfl) (by kernel_rfl) (fun _ _ _ h => h) (Or.inl ⟨by rfl, ?hy7⟩) (by assumption) ?rest7
    case hy7 => (intro w hSw; (try dsimp only at hSw); go_simp; try with_reducible rfl)
    try simp only [List.getElem_toArray, List.getElem_cons_succ, List.getElem_cons_zero, Act.put, List.setIfInBounds_toArray, List.set_cons_zero, List.set_cons_succ]
    refine wpAnyH_take (i := 1) (v := ?v8) rfl (by kernel_rfl) (by kernel_rfl) (by kernel_rfl) (fun _ _ _ h => h) (Or.inl ⟨by rfl, ?hy8⟩) (by assumption) ?rest8
    case hy8 => (intro w hSw; (try dsimp only at hSw); go_simp; try with_reducible rfl)
    try simp only [List.getElem_toArray, List.getElem_cons_succ, List.getElem_cons_zero, Act.put, List.setIfInBounds_toArray, List.set_cons_zero, List.set_cons_succ]
    refine wpAnyH_take (i := 2) (v := ?v9) rfl (by kernel_rfl) (by kernel_rfl) (by kernel_rfl) (fun _ _ _ h => h) (Or.inl ⟨by rfl, ?hy9⟩) (by assumption) ?rest9
    case hy9 => (intro w hSw; (try dsimp only at hSw); go_simp; try with_reducible rfl)
    try simp only [List.getElem_toArray, List.getElem_cons_succ, List.getElem_cons_zero, Act.put, List.setIfInBounds_toArray, List.set_cons_zero, List.set_cons_succ]
    obtain ⟨r0, r1, r2, r3, r4, r5, g0, g1, g2, g3, g4, g5⟩ := H68.out
    refine wpAnyH_ready (rs := [3]) (by kernel_rfl) (by simp) ?_
    refine AllReadyH.cons rfl (fun K hK => ?_) AllReadyH.nil
    rw [if_pos (by rfl)]
    simp only [List.getElem_toArray, List.getElem_cons_succ, List.getElem_cons_zero]
    go_big_op
    refine hK.out _ _ ?_ (fun _ => ?_)
    · exact (HD5.out.put (by omega) (by omega) _ _ _ _ _ _).drew
    clear hK K
    try simp only [List.getElem_toArray, List.getElem_cons_succ, List.getElem_cons_zero, Act.put, List.setIfInBounds_toArray, List.set_cons_zero, List.set_cons_succ]
    refine wpAnyH_take (i := 4) (v := ?v10) rfl (by kernel_rfl) (by kernel_rfl) (by kernel_rfl) (fun _ _ _ h => h) (Or.inl ⟨by rfl, ?hy10⟩) (by assumption) ?rest10
    case hy10 => (intro w hSw; (try dsimp only at hSw); go_simp; try with_reducible rfl)
    try simp only [List.getElem_toArray, List.getElem_cons_succ, List.getElem_cons_zero, Act.put, List.setIfInBounds_toArray, List.set_cons_zero, List.set_cons_succ]
    refine wpAnyH_done (by kernel_rfl) ?_ _
    go_wp2_with fail
    refine bodyPost_ret (v := .tuple #[.agg #[.int .i64 cd, .int .i64 f, .int .i64 jn, .int .i64 q2, .int .i64 a2, .int .i64 y2], u]) (by simp [results, Try.results21, go_sem, r0, r1, r2, r3, r4, r5]) rfl ?_
    exact ⟨⟨cd, f, jn, q2, a2, y2, ps2⟩, u, HDA.out, HAR.out, rfl, owns_later' (owns6 HOW8.out hz3 hbW.size _ _ _ _ _ _) ((Below.refl _ _).drew), (below6 HB8.out _ _ _ _ _ _).drew⟩
end Go.Proofs.Yteapmddadieohaa

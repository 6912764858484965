import Derived.Test.YtokhbnlpifmjkaaDoorWnW
import Derived.Test.YtokhbnlpifmjkaaDoorWnS
import Derived.Test.YtokhbnlpifmjkaaDoorEq
import Derived.Test.YtokhbnlpifmjkaaDoorRd
import Derived.Deep.RegionWith
namespace Go.Proofs.YtokhbnlpifmjkaaDoor
open Go.RowKit
set_option maxHeartbeats 1000000

theorem below_alloc' {w w' : World} {o : Obj} (h : Below (w.alloc o).heap.size (w.alloc o) w') : Below w.heap.size w w' :=
  ((Below.refl _ _).alloc (Nat.le_refl _) _).trans (h.mono (by simp))

def wRes (N : Nt) : ByteArray := if netOk N = (0, 0) then wText N else ⟨#[]⟩
theorem specWriteNet_res (a a' : Option Addr) (N : Nt) (cap cap' : Nat) (w : World) (hn : N.pcs.length ≤ 1048576) (hs : ∀ p ∈ N.pcs, p.name.size ≤ 1048576) (hl : N.jts.length ≤ 1048576) (hm : ∀ j ∈ N.jts, j.name.size ≤ 1048576 ∧ j.ends.length ≤ 1048576) (hp : PcsAt w a N.pcs) (hj : JtsAt w a' N.jts) :
    Calls Tryd.prog 5 #[.agg #[.slice a N.pcs.length cap, .slice a' N.jts.length cap']] w fun e w' => e = .returned (.string (wRes N)) ∧ Below w.heap.size w w' :=
  specWriteNet_any a a' N cap cap' w hn hs hl hm hp hj
theorem implWriteNet_res (a a' : Option Addr) (N : Nt) (cap cap' : Nat) (w : World) (hn : N.pcs.length ≤ 1048576) (hs : ∀ p ∈ N.pcs, p.name.size ≤ 1048576) (hl : N.jts.length ≤ 1048576) (hm : ∀ j ∈ N.jts, j.name.size ≤ 1048576 ∧ j.ends.length ≤ 1048576) (hp : PcsAt w a N.pcs) (hj : JtsAt w a' N.jts) (ht : Tab w) :
    Calls Tryd.prog 7 #[.agg #[.slice a N.pcs.length cap, .slice a' N.jts.length cap']] w fun e w' => e = .returned (.string (wRes N)) ∧ Below w.heap.size w w' :=
  implWriteNet_any a a' N cap cap' w hn hs hl hm hp hj ht

theorem fnWriteNet_walk (a a' : Option Addr) (N : Nt) (cap cap' : Nat) (w : World) (hp : PcsAt w a N.pcs) (hj : JtsAt w a' N.jts) (hn : N.pcs.length ≤ maxLen ∧ ∀ p ∈ N.pcs, p.name.size ≤ maxLen) (hl : N.jts.length ≤ maxLen ∧ ∀ j ∈ N.jts, j.name.size ≤ maxLen ∧ j.ends.length ≤ maxLen) (ht : Tab w) :
    Calls Tryd.prog 3 #[.agg #[.slice a N.pcs.length cap, .slice a' N.jts.length cap']] w fun e w' =>
    e = .returned (.bool true) ∧ Below w.heap.size w w' := by
  have HP := hide hp
  have HJ := hide hj
  have HN := hide hn
  have HL := hide hl
  have HT := hide ht
  clear hp hj hn hl ht
  go_enter Tryd.func3, Tryd.ntmps3
  go_wp2_with fail
  have hbW : Below w.heap.size w (w.alloc (.cells #[.slice a N.pcs.length cap, .slice a' N.jts.length cap'] 25)) := (Below.refl _ _).alloc (Nat.le_refl _) _
  refine (szNet_any a a' N cap cap' 1048576 _ HN.out.1 (HP.out.later hbW) HN.out.2 HL.out.1 (HJ.out.later hbW) HL.out.2 (by omega) (by omega)).mono ?_
  rintro e w1 ⟨r, rfl, hr1, hr2, hr3, hb1⟩
  have t0 := box_cell hb1 0 _ rfl
  have t1 := box_cell hb1 1 _ rfl
  have hB1 := hbW.trans (hb1.mono hbW.size)
  have HR := hide hr3
  clear hr3 hb1
  by_cases hr : r < 0
  · go_wp2_with fail
    go_ret
    exact ⟨rfl, hB1⟩
  obtain ⟨⟨hn, hns⟩, hl, hls⟩ := HR.out (by omega)
  have HNS := hide hns
  have HLS := hide hls
  clear hns hls
  go_wp2_with fail
  refine (toNet_any a a' N cap cap' _ hn (HP.out.later hB1) hl (fun j hj => (HLS.out j hj).2) (HJ.out.later hB1)).mono ?_
  rintro e w2 ⟨b1, b2, rfl, hO, hb2⟩
  have HO := hide hO
  clear hO
  have hB2 := hB1.trans (hb2.mono hB1.size)
  have t0 := cell_later' hb2 t0
  have t1 := cell_later' hb2 t1
  go_wp2_with fail
  refine (specWriteNet_res _ _ N _ _ _ hn HNS.out hl HLS.out HO.out.2.2.2.1 HO.out.2.2.2.2.at).mono ?_
  rintro e w3 ⟨rfl, hb3⟩
  have hB3 := hB2.trans (hb3.mono hB2.size)
  have t0 := cell_later' hb3 t0
  have t1 := cell_later' hb3 t1
  have ht0 := cell_lt t0
  go_wp2_with fail
  refine (toNet_any a a' N cap cap' _ hn (HP.out.later hB3) hl (fun j hj => (HLS.out j hj).2) (HJ.out.later hB3)).mono ?_
  rintro e w4 ⟨c1, c2, rfl, hO4, hb4⟩
  have HO4 := hide hO4
  clear hO4
  have hB4 := hB3.trans (hb4.mono hB3.size)
  have t0 := cell_later' hb4 t0
  have t1 := cell_later' hb4 t1
  have HT4 := hide (HT.out.later (hB4.alloc hB4.size (.cells #[.slice (some ⟨c1, 0, none⟩) N.pcs.length N.pcs.length, .slice (some ⟨c2, 0, none⟩) N.jts.length N.jts.length] 31)))
  go_wp2_with fail
  refine (implWriteNet_res _ _ N _ _ _ hn HNS.out hl HLS.out (HO4.out.2.2.2.1.later ((Below.refl _ _).alloc (Nat.le_refl _) _)) (HO4.out.2.2.2.2.at.later ((Below.refl _ _).alloc (Nat.le_refl _) _)) HT4.out).mono ?_
  rintro e w5 ⟨rfl, hb5⟩
  have v0 := box_cell hb5 0 _ rfl
  have v1 := box_cell hb5 1 _ rfl
  have hb45 := below_alloc' hb5
  have hB5 := hB4.trans (hb45.mono hB4.size)
  have t0 := cell_later' hb45 t0
  have t1 := cell_later' hb45 t1
  have HO5 := hide (HO4.out.later hb45)
  clear hb2 hb3 hb4 hb5 hb45
  go_wp2_with fail
  have hBd : Below w.heap.size w w5.drew := hB5.drew
  have h66 : Below w5.heap.size w5 w5.drew := (Below.refl _ _).drew
  have HPd := hide (HP.out.later hBd)
  have HJd := hide (HJ.out.later hBd)
  have HLM := hide (fun j (hj : j ∈ N.jts) => (HLS.out j hj).2)
  have x0 := HO5.out.2.2.2.1
  have x1 := HO5.out.2.2.2.2.at
  have HX0 := hide x0
  have HX1 := hide x1
  clear x0 x1
  go_region_with (first
    | (go_at_call 6; refine (toNet_any a a' N cap cap' _ hn ?_ hl ?_ ?_).mono ?_; exact HPd.out; exact HLM.out; exact HJd.out; rintro e w7 ⟨d1, d2, rfl, hO7, hb7⟩; have hb67 := h66.trans hb7; have v0' := cell_later' hb67 v0; have v1' := cell_later' hb67 v1)
    | (go_at_call 8; refine (eqNet_same _ _ _ _ N _ _ _ _ _ hn hl ?_ ?_ ?_ ?_ ?_).mono ?_; exact HLM.out; exact HX0.out.later hb67; exact hO7.2.2.2.1; exact HX1.out.later hb67; exact hO7.2.2.2.2.at; rintro e w8 ⟨rfl, hb8⟩))
  all_goals
    have hB7 := hB5.trans (hb67.mono hB5.size)
    have hB8 := hB7.trans (hb8.mono hB7.size)
    go_wp2_with fail
    go_ret
    exact ⟨rfl, hB8⟩
end Go.Proofs.YtokhbnlpifmjkaaDoor

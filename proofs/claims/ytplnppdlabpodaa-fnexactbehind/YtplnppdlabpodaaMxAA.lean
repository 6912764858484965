import Derived.Test.YtplnppdlabpodaaTo
import Derived.Deep.RegionWith
import Derived.Deep.RegionHeld3
import Derived.Deep.DeepCutAuto
namespace Go.Proofs.Ytplnppdlabpodaa
open Go.RowKit
set_option maxHeartbeats 2000000

theorem toSpot_any (q at' way : Int) (w : World) :
    Calls Try.prog 30 #[.agg #[.int .i64 q, .int .i64 at', .int .i64 way]] w fun e w' =>
    e = .returned (.agg #[.int .i64 q, .int .i64 at', .int .i64 way]) ∧ Below w.heap.size w w' := by
  go_enter Try.func30, Try.ntmps30
  go_wp2
  exact bodyPost_ret (v := .agg #[.int .i64 q, .int .i64 at', .int .i64 way]) (by simp [results, Try.results30, go_sem]) rfl ⟨rfl, (((Below.refl _ _).alloc (Nat.le_refl _) _).alloc (by simp) _).alloc (by simp; omega) _⟩

theorem eqSpot_same (q at' way : Int) (w : World) : Calls Try.prog 34 #[.agg #[.int .i64 q, .int .i64 at', .int .i64 way], .agg #[.int .i64 q, .int .i64 at', .int .i64 way]] w fun e w' =>
    e = .returned (.bool true) ∧ Below w.heap.size w w' := by
  go_enter Try.func34, Try.ntmps34
  go_wp2
  go_ret
  exact ⟨rfl, ((Below.refl _ _).alloc (Nat.le_refl _) _).alloc (by simp) _⟩
end Go.Proofs.Ytplnppdlabpodaa

namespace Go.Proofs.Ytplnppdlabpodaa
open Go.RowKit
set_option maxHeartbeats 400000

theorem eqEnd_same (c a : Int) (w : World) : Calls Try.prog 84 #[.agg #[.int .i64 c, .int .i64 a], .agg #[.int .i64 c, .int .i64 a]] w fun e w' =>
    e = .returned (.bool true) ∧ Below w.heap.size w w' := by
  go_enter Try.func84, Try.ntmps84
  go_wp2
  go_ret
  exact ⟨rfl, ((Below.refl _ _).alloc (Nat.le_refl _) _).alloc (by simp) _⟩

theorem eqPiece_same (p : Pc) (w : World) : Calls Try.prog 111 #[.agg #[.string p.name, .int .i64 p.len, .int .i64 p.speed, .int .i64 p.brake], .agg #[.string p.name, .int .i64 p.len, .int .i64 p.speed, .int .i64 p.brake]] w fun e w' =>
    e = .returned (.bool true) ∧ Below w.heap.size w w' := by
  go_enter Try.func111, Try.ntmps111
  go_wp2
  go_ret
  exact ⟨rfl, ((Below.refl _ _).alloc (Nat.le_refl _) _).alloc (by simp) _⟩

theorem eqEndS_same (a a' : Option Addr) (es : List (Int × Int)) (cap cap' : Nat) (w : World) (hn : es.length ≤ 1048576) (hp : EndsAt w a es) (hp' : EndsAt w a' es) :
    Calls Try.prog 25 #[.slice a es.length cap, .slice a' es.length cap'] w fun e w' =>
    e = .returned (.bool true) ∧ Below w.heap.size w w' := by
  have HP := hide hp
  have HP' := hide hp'
  clear hp hp'
  go_enter Try.func25, Try.ntmps25
  go_wp2
  go_loopw [5] (fun i wr => ∃ (k : Nat), k ≤ es.length ∧ i = .int .i64 k ∧ Below w.heap.size w wr) (fun i _ => es.length - (intOf i).toNat)
  case atStart => exact ⟨0, Nat.zero_le _, rfl, Below.refl _ _⟩
  case round =>
    obtain ⟨k, hk, rfl, hb⟩ := hrel
    by_cases hlt : k < es.length
    · obtain ⟨b, off, rfl, c0, c1⟩ := (EndsAt.later HP.out hb) k hlt
      obtain ⟨b', off', rfl, c0', c1'⟩ := (EndsAt.later HP'.out hb) k hlt
      go_wp2_with fail
      go_region_with (go_at_call 84; refine (eqEnd_same _ _ _).mono ?_; rintro e w1 ⟨rfl, hb1⟩)
      all_goals
        have hb2 := hb.trans (Below.mono (Below.trans (Below.drew (Below.refl _ _)) hb1) hb.size)
        go_wp2_with fail
        go_roundw
        case rel => exact ⟨k + 1, by omega, by go_num, hb2⟩
        case measure => simp [intOf]; omega
    · go_wp2_with fail
      go_ret
      exact ⟨rfl, hb⟩

theorem eqPieceS_same (a a' : Option Addr) (es : List Pc) (cap cap' : Nat) (w : World) (hn : es.length ≤ 1048576) (hp : PcsAt w a es) (hp' : PcsAt w a' es) :
    Calls Try.prog 76 #[.slice a es.length cap, .slice a' es.length cap'] w fun e w' =>
    e = .returned (.bool true) ∧ Below w.heap.size w w' := by
  have HP := hide hp
  have HP' := hide hp'
  clear hp hp'
  go_enter Try.func76, Try.ntmps76
  go_wp2
  go_loopw [5] (fun i wr => ∃ (k : Nat), k ≤ es.length ∧ i = .int .i64 k ∧ Below w.heap.size w wr) (fun i _ => es.length - (intOf i).toNat)
  case atStart => exact ⟨0, Nat.zero_le _, rfl, Below.refl _ _⟩
  case round =>
    obtain ⟨k, hk, rfl, hb⟩ := hrel
    by_cases hlt : k < es.length
    · obtain ⟨b, off, rfl, c0, c1, c2, c3⟩ := (PcsAt.later HP.out hb) k hlt
      obtain ⟨b', off', rfl, c0', c1', c2', c3'⟩ := (PcsAt.later HP'.out hb) k hlt
      go_wp2_with fail
      go_region_with (go_at_call 111; refine (eqPiece_same es[k] _).mono ?_; rintro e w1 ⟨rfl, hb1⟩)
      all_goals
        have hb2 := hb.trans (Below.mono (Below.trans (Below.drew (Below.refl _ _)) hb1) hb.size)
        go_wp2_with fail
        go_roundw
        case rel => exact ⟨k + 1, by omega, by go_num, hb2⟩
        case measure => simp [intOf]; omega
    · go_wp2_with fail
      go_ret
      exact ⟨rfl, hb⟩

theorem eqJoint_same (j : Jt) (a a' : Option Addr) (cap cap' : Nat) (w : World) (hn : j.ends.length ≤ 1048576) (hp : EndsAt w a j.ends) (hp' : EndsAt w a' j.ends) :
    Calls Try.prog 112 #[.agg #[.int .i64 j.kind, .string j.name, .slice a j.ends.length cap], .agg #[.int .i64 j.kind, .string j.name, .slice a' j.ends.length cap']] w fun e w' =>
    e = .returned (.bool true) ∧ Below w.heap.size w w' := by
  have HP := hide hp
  have HP' := hide hp'
  clear hp hp'
  go_enter Try.func112, Try.ntmps112
  go_wp2_with fail
  have hbW : Below w.heap.size w ((w.alloc (.cells #[.int .i64 j.kind, .string j.name, .slice a j.ends.length cap] 110)).alloc (.cells #[.int .i64 j.kind, .string j.name, .slice a' j.ends.length cap'] 110)) := ((Below.refl _ _).alloc (Nat.le_refl _) _).alloc (by simp) _
  refine (eqEndS_same a a' j.ends cap cap' _ hn (HP.out.later hbW) (HP'.out.later hbW)).mono ?_
  rintro e w1 ⟨rfl, hb1⟩
  have hb2 := hbW.trans (hb1.mono hbW.size)
  go_wp2_with fail
  go_ret
  exact ⟨rfl, hb2⟩

theorem eqJointS_same (a a' : Option Addr) (es : List Jt) (cap cap' : Nat) (w : World) (hn : es.length ≤ 1048576) (hm : ∀ j ∈ es, j.ends.length ≤ 1048576) (hp : JtsAt w a es) (hp' : JtsAt w a' es) :
    Calls Try.prog 77 #[.slice a es.length cap, .slice a' es.length cap'] w fun e w' =>
    e = .returned (.bool true) ∧ Below w.heap.size w w' := by
  have HP := hide hp
  have HP' := hide hp'
  have HM := hide hm
  clear hp hp' hm
  go_enter Try.func77, Try.ntmps77
  go_wp2
  go_loopw [5] (fun i wr => ∃ (k : Nat), k ≤ es.length ∧ i = .int .i64 k ∧ Below w.heap.size w wr) (fun i _ => es.length - (intOf i).toNat)
  case atStart => exact ⟨0, Nat.zero_le _, rfl, Below.refl _ _⟩
  case round =>
    obtain ⟨k, hk, rfl, hb⟩ := hrel
    by_cases hlt : k < es.length
    · obtain ⟨b, off, ea, ec, rfl, c0, c1, c2, ce⟩ := (JtsAt.later HP.out hb) k hlt
      obtain ⟨b', off', ea', ec', rfl, c0', c1', c2', ce'⟩ := (JtsAt.later HP'.out hb) k hlt
      have CE := hide ce
      have CE' := hide ce'
      have hm := HM.out _ (List.getElem_mem hlt)
      clear ce ce'
      go_wp2_with fail
      go_region_with (go_at_call 112; refine (eqJoint_same es[k] _ _ _ _ _ hm ?_ ?_).mono ?_; exact EndsAt.later CE.out (Below.drew (Below.refl _ _)); exact EndsAt.later CE'.out (Below.drew (Below.refl _ _)); rintro e w1 ⟨rfl, hb1⟩)
      all_goals
        have hb2 := hb.trans (Below.mono (Below.trans (Below.drew (Below.refl _ _)) hb1) hb.size)
        go_wp2_with fail
        go_roundw
        case rel => exact ⟨k + 1, by omega, by go_num, hb2⟩
        case measure => simp [intOf]; omega
    · go_wp2_with fail
      go_ret
      exact ⟨rfl, hb⟩

theorem eqNet_same (a a' b b' : Option Addr) (N : Nt) (ca ca' cb cb' : Nat) (w : World) (hn : N.pcs.length ≤ 1048576) (hn' : N.jts.length ≤ 1048576) (hm : ∀ j ∈ N.jts, j.ends.length ≤ 1048576) (hp : PcsAt w a N.pcs) (hp' : PcsAt w a' N.pcs) (hj : JtsAt w b N.jts) (hj' : JtsAt w b' N.jts) :
    Calls Try.prog 19 #[.agg #[.slice a N.pcs.length ca, .slice b N.jts.length cb], .agg #[.slice a' N.pcs.length ca', .slice b' N.jts.length cb']] w fun e w' =>
    e = .returned (.bool true) ∧ Below w.heap.size w w' := by
  have HP := hide hp
  have HP' := hide hp'
  have HJ := hide hj
  have HJ' := hide hj'
  have HM := hide hm
  clear hp hp' hj hj' hm
  go_enter Try.func19, Try.ntmps19
  go_wp2_with fail
  have hbW : Below w.heap.size w ((w.alloc (.cells #[.slice a N.pcs.length ca, .slice b N.jts.length cb] 33)).alloc (.cells #[.slice a' N.pcs.length ca', .slice b' N.jts.length cb'] 33)) := ((Below.refl _ _).alloc (Nat.le_refl _) _).alloc (by simp) _
  refine (eqPieceS_same a a' N.pcs ca ca' _ hn (HP.out.later hbW) (HP'.out.later hbW)).mono ?_
  rintro e w1 ⟨rfl, hb1⟩
  have hb2 := hbW.trans (hb1.mono hbW.size)
  obtain ⟨hc, hf⟩ := bcell hb1
  go_wp2_with fail
  refine (eqJointS_same b b' N.jts cb cb' _ hn' HM.out (HJ.out.later hb2) (HJ'.out.later hb2)).mono ?_
  rintro e w2 ⟨rfl, hb3⟩
  have hb4 := hb2.trans (hb3.mono hb2.size)
  go_wp2_with fail
  go_ret
  exact ⟨rfl, hb4⟩
end Go.Proofs.Ytplnppdlabpodaa

/- What the laws' walks of chapter 3 have in common. Own work. -/
namespace Go.Proofs.Ytplnppdlabpodaa
open Go.RowKit
set_option maxHeartbeats 2000000

theorem chn {a b c : World} (h : Below a.heap.size a b) (k : Below b.heap.size b c) : Below a.heap.size a c := h.trans (k.mono h.size)

def Wf3 (q at' way : Int) : Prop := (Lit.int .i64 q).wf = true ∧ (Lit.int .i64 at').wf = true ∧ (Lit.int .i64 way).wf = true

/-- The law's two boxes, and what has come since. -/
abbrev LS (w w1 w' : World) (v0 v1 : Value) (q at' way : Int) : Prop :=
  (w'.cell? ⟨w.heap.size, 0, none⟩ = some v0 ∧ w'.cell? ⟨w.heap.size, 1, none⟩ = some v1 ∧ w'.cell? ⟨w.heap.size + 1, 0, none⟩ = some (.int .i64 q) ∧ w'.cell? ⟨w.heap.size + 1, 1, none⟩ = some (.int .i64 at') ∧ w'.cell? ⟨w.heap.size + 1, 2, none⟩ = some (.int .i64 way)) ∧ Hid (Below w1.heap.size w1 w')
theorem keepL {w w1 w2 w3 : World} {v0 v1 : Value} {q at' way : Int} (hb : Below w2.heap.size w2 w3) (h : LS w w1 w2 v0 v1 q at' way) : LS w w1 w3 v0 v1 q at' way :=
  ⟨⟨cell_later' hb h.1.1, cell_later' hb h.1.2.1, cell_later' hb h.1.2.2.1, cell_later' hb h.1.2.2.2.1, cell_later' hb h.1.2.2.2.2⟩, h.2.out.trans (hb.mono h.2.out.size)⟩
theorem heldB {p : Prop} {w1 w' : World} (h : p ∧ Hid (Below w1.heap.size w1 w')) : Below w1.heap.size w1 w' := h.2
/-- And a box with a net. -/
abbrev LS2 (w w1 w' : World) (v0 v1 : Value) (q at' way : Int) (b : Nat) (u0 u1 : Value) : Prop := LS w w1 w' v0 v1 q at' way ∧ w'.cell? ⟨b, 0, none⟩ = some u0 ∧ w'.cell? ⟨b, 1, none⟩ = some u1
theorem keepL2 {w w1 w2 w3 : World} {v0 v1 u0 u1 : Value} {q at' way : Int} {b : Nat} (hb : Below w2.heap.size w2 w3) (h : LS2 w w1 w2 v0 v1 q at' way b u0 u1) : LS2 w w1 w3 v0 v1 q at' way b u0 u1 :=
  ⟨keepL hb h.1, cell_later' hb h.2.1, cell_later' hb h.2.2⟩
end Go.Proofs.Ytplnppdlabpodaa

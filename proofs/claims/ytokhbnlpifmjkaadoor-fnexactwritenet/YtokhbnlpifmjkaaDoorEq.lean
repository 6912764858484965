import Derived.Test.YtokhbnlpifmjkaaDoorTo
import Derived.Deep.RegionWith
import Derived.Deep.RegionHeld3
namespace Go.Proofs.YtokhbnlpifmjkaaDoor
open Go.RowKit
set_option maxHeartbeats 400000

theorem eqEnd_same (c a : Int) (w : World) : Calls Tryd.prog 61 #[.agg #[.int .i64 c, .int .i64 a], .agg #[.int .i64 c, .int .i64 a]] w fun e w' =>
    e = .returned (.bool true) ∧ Below w.heap.size w w' := by
  go_enter Tryd.func61, Tryd.ntmps61
  go_wp2
  go_ret
  exact ⟨rfl, ((Below.refl _ _).alloc (Nat.le_refl _) _).alloc (by simp) _⟩

theorem eqPiece_same (p : Pc) (w : World) : Calls Tryd.prog 38 #[.agg #[.string p.name, .int .i64 p.len, .int .i64 p.speed, .int .i64 p.brake], .agg #[.string p.name, .int .i64 p.len, .int .i64 p.speed, .int .i64 p.brake]] w fun e w' =>
    e = .returned (.bool true) ∧ Below w.heap.size w w' := by
  go_enter Tryd.func38, Tryd.ntmps38
  go_wp2
  go_ret
  exact ⟨rfl, ((Below.refl _ _).alloc (Nat.le_refl _) _).alloc (by simp) _⟩

theorem eqEndS_same (a a' : Option Addr) (es : List (Int × Int)) (cap cap' : Nat) (w : World) (hn : es.length ≤ 1048576) (hp : EndsAt w a es) (hp' : EndsAt w a' es) :
    Calls Tryd.prog 54 #[.slice a es.length cap, .slice a' es.length cap'] w fun e w' =>
    e = .returned (.bool true) ∧ Below w.heap.size w w' := by
  have HP := hide hp
  have HP' := hide hp'
  clear hp hp'
  go_enter Tryd.func54, Tryd.ntmps54
  go_wp2
  go_loopw [5] (fun i wr => ∃ (k : Nat), k ≤ es.length ∧ i = .int .i64 k ∧ Below w.heap.size w wr) (fun i _ => es.length - (intOf i).toNat)
  case atStart => exact ⟨0, Nat.zero_le _, rfl, Below.refl _ _⟩
  case round =>
    obtain ⟨k, hk, rfl, hb⟩ := hrel
    by_cases hlt : k < es.length
    · obtain ⟨b, off, rfl, c0, c1⟩ := (EndsAt.later HP.out hb) k hlt
      obtain ⟨b', off', rfl, c0', c1'⟩ := (EndsAt.later HP'.out hb) k hlt
      go_wp2_with fail
      go_region_with (go_at_call 61; refine (eqEnd_same _ _ _).mono ?_; rintro e w1 ⟨rfl, hb1⟩)
      all_goals
        have hb2 := hb.trans (Below.mono (Below.trans (Below.drew (Below.refl _ _)) hb1) hb.size)
        go_wp2_with fail
        go_roundw
        case rel => exact ⟨k + 1, by omega, by go_num, hb2⟩
        case measure => simp [intOf]; omega
    · go_wp2_with fail
      go_ret
      exact ⟨rfl, hb⟩

theorem eqPieceS_same (a a' : Option Addr) (es : List Pc) (cap cap' : Nat) (w : World) (hn : es.length ≤ 1048576) (hp : PcsAt w a es) (hp' : PcsAt w a' es) :
    Calls Tryd.prog 20 #[.slice a es.length cap, .slice a' es.length cap'] w fun e w' =>
    e = .returned (.bool true) ∧ Below w.heap.size w w' := by
  have HP := hide hp
  have HP' := hide hp'
  clear hp hp'
  go_enter Tryd.func20, Tryd.ntmps20
  go_wp2
  go_loopw [5] (fun i wr => ∃ (k : Nat), k ≤ es.length ∧ i = .int .i64 k ∧ Below w.heap.size w wr) (fun i _ => es.length - (intOf i).toNat)
  case atStart => exact ⟨0, Nat.zero_le _, rfl, Below.refl _ _⟩
  case round =>
    obtain ⟨k, hk, rfl, hb⟩ := hrel
    by_cases hlt : k < es.length
    · obtain ⟨b, off, rfl, c0, c1, c2, c3⟩ := (PcsAt.later HP.out hb) k hlt
      obtain ⟨b', off', rfl, c0', c1', c2', c3'⟩ := (PcsAt.later HP'.out hb) k hlt
      go_wp2_with fail
      go_region_with (go_at_call 38; refine (eqPiece_same es[k] _).mono ?_; rintro e w1 ⟨rfl, hb1⟩)
      all_goals
        have hb2 := hb.trans (Below.mono (Below.trans (Below.drew (Below.refl _ _)) hb1) hb.size)
        go_wp2_with fail
        go_roundw
        case rel => exact ⟨k + 1, by omega, by go_num, hb2⟩
        case measure => simp [intOf]; omega
    · go_wp2_with fail
      go_ret
      exact ⟨rfl, hb⟩

theorem eqJoint_same (j : Jt) (a a' : Option Addr) (cap cap' : Nat) (w : World) (hn : j.ends.length ≤ 1048576) (hp : EndsAt w a j.ends) (hp' : EndsAt w a' j.ends) :
    Calls Tryd.prog 39 #[.agg #[.int .i64 j.kind, .string j.name, .slice a j.ends.length cap], .agg #[.int .i64 j.kind, .string j.name, .slice a' j.ends.length cap']] w fun e w' =>
    e = .returned (.bool true) ∧ Below w.heap.size w w' := by
  have HP := hide hp
  have HP' := hide hp'
  clear hp hp'
  go_enter Tryd.func39, Tryd.ntmps39
  go_wp2_with fail
  have hbW : Below w.heap.size w ((w.alloc (.cells #[.int .i64 j.kind, .string j.name, .slice a j.ends.length cap] 43)).alloc (.cells #[.int .i64 j.kind, .string j.name, .slice a' j.ends.length cap'] 43)) := ((Below.refl _ _).alloc (Nat.le_refl _) _).alloc (by simp) _
  refine (eqEndS_same a a' j.ends cap cap' _ hn (HP.out.later hbW) (HP'.out.later hbW)).mono ?_
  rintro e w1 ⟨rfl, hb1⟩
  have hb2 := hbW.trans (hb1.mono hbW.size)
  go_wp2_with fail
  go_ret
  exact ⟨rfl, hb2⟩

theorem eqJointS_same (a a' : Option Addr) (es : List Jt) (cap cap' : Nat) (w : World) (hn : es.length ≤ 1048576) (hm : ∀ j ∈ es, j.ends.length ≤ 1048576) (hp : JtsAt w a es) (hp' : JtsAt w a' es) :
    Calls Tryd.prog 21 #[.slice a es.length cap, .slice a' es.length cap'] w fun e w' =>
    e = .returned (.bool true) ∧ Below w.heap.size w w' := by
  have HP := hide hp
  have HP' := hide hp'
  have HM := hide hm
  clear hp hp' hm
  go_enter Tryd.func21, Tryd.ntmps21
  go_wp2
  go_loopw [5] (fun i wr => ∃ (k : Nat), k ≤ es.length ∧ i = .int .i64 k ∧ Below w.heap.size w wr) (fun i _ => es.length - (intOf i).toNat)
  case atStart => exact ⟨0, Nat.zero_le _, rfl, Below.refl _ _⟩
  case round =>
    obtain ⟨k, hk, rfl, hb⟩ := hrel
    by_cases hlt : k < es.length
    · obtain ⟨b, off, ea, ec, rfl, c0, c1, c2, ce⟩ := (JtsAt.later HP.out hb) k hlt
      obtain ⟨b', off', ea', ec', rfl, c0', c1', c2', ce'⟩ := (JtsAt.later HP'.out hb) k hlt
      have CE := hide ce
      have CE' := hide ce'
      have hm := HM.out _ (List.getElem_mem hlt)
      clear ce ce'
      go_wp2_with fail
      go_region_with (go_at_call 39; refine (eqJoint_same es[k] _ _ _ _ _ hm ?_ ?_).mono ?_; exact EndsAt.later CE.out (Below.drew (Below.refl _ _)); exact EndsAt.later CE'.out (Below.drew (Below.refl _ _)); rintro e w1 ⟨rfl, hb1⟩)
      all_goals
        have hb2 := hb.trans (Below.mono (Below.trans (Below.drew (Below.refl _ _)) hb1) hb.size)
        go_wp2_with fail
        go_roundw
        case rel => exact ⟨k + 1, by omega, by go_num, hb2⟩
        case measure => simp [intOf]; omega
    · go_wp2_with fail
      go_ret
      exact ⟨rfl, hb⟩

theorem eqNet_same (a a' b b' : Option Addr) (N : Nt) (ca ca' cb cb' : Nat) (w : World) (hn : N.pcs.length ≤ 1048576) (hn' : N.jts.length ≤ 1048576) (hm : ∀ j ∈ N.jts, j.ends.length ≤ 1048576) (hp : PcsAt w a N.pcs) (hp' : PcsAt w a' N.pcs) (hj : JtsAt w b N.jts) (hj' : JtsAt w b' N.jts) :
    Calls Tryd.prog 8 #[.agg #[.slice a N.pcs.length ca, .slice b N.jts.length cb], .agg #[.slice a' N.pcs.length ca', .slice b' N.jts.length cb']] w fun e w' =>
    e = .returned (.bool true) ∧ Below w.heap.size w w' := by
  have HP := hide hp
  have HP' := hide hp'
  have HJ := hide hj
  have HJ' := hide hj'
  have HM := hide hm
  clear hp hp' hj hj' hm
  go_enter Tryd.func8, Tryd.ntmps8
  go_wp2_with fail
  have hbW : Below w.heap.size w ((w.alloc (.cells #[.slice a N.pcs.length ca, .slice b N.jts.length cb] 31)).alloc (.cells #[.slice a' N.pcs.length ca', .slice b' N.jts.length cb'] 31)) := ((Below.refl _ _).alloc (Nat.le_refl _) _).alloc (by simp) _
  refine (eqPieceS_same a a' N.pcs ca ca' _ hn (HP.out.later hbW) (HP'.out.later hbW)).mono ?_
  rintro e w1 ⟨rfl, hb1⟩
  have hb2 := hbW.trans (hb1.mono hbW.size)
  obtain ⟨hc, hf⟩ := bcell hb1
  go_wp2_with fail
  refine (eqJointS_same b b' N.jts cb cb' _ hn' HM.out (HJ.out.later hb2) (HJ'.out.later hb2)).mono ?_
  rintro e w2 ⟨rfl, hb3⟩
  have hb4 := hb2.trans (hb3.mono hb2.size)
  go_wp2_with fail
  go_ret
  exact ⟨rfl, hb4⟩
end Go.Proofs.YtokhbnlpifmjkaaDoor

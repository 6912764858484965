import Derived.Test.YtplnppdlabpodaaJaA
namespace Go.Proofs.Ytplnppdlabpodaa
open Go.RowKit
set_option maxHeartbeats 1000000

/-- What JointAt answers. -/
def JA (N : Nt) (e : Int × Int) (r : Int) : Prop :=
  (∃ j i : Nat, netOk N = (0, 0) ∧ At N.jts e j i ∧ r = j) ∨ (¬ (netOk N = (0, 0) ∧ endOk N.pcs.length e = true) ∧ r = -1)

theorem JA.unique {N : Nt} {e : Int × Int} {r r' : Int} (h : JA N e r) (h' : JA N e r') : r = r' := by
  rcases h with ⟨j, i, hr, hat, rfl⟩ | ⟨hn, rfl⟩
  · have hok := endOk_of_at (right_facts hr).2.2.1 hat
    rcases h' with ⟨j', i', _, hat', rfl⟩ | ⟨hn', rfl⟩
    · rw [(hat.unique hat' (uses_right hr hok)).1]
    · exact absurd ⟨hr, hok⟩ hn'
  · rcases h' with ⟨j', i', hr, hat', rfl⟩ | ⟨hn', rfl⟩
    · exact absurd ⟨hr, endOk_of_at (right_facts hr).2.2.1 hat'⟩ hn
    · rfl

theorem specJointAt_any (a a' : Option Addr) (N : Nt) (cap cap' : Nat) (p s : Int) (w : World) (hn : N.pcs.length ≤ 1048576) (hs : ∀ p ∈ N.pcs, p.name.size ≤ 1048576) (hl : N.jts.length ≤ 1048576) (hm : ∀ j ∈ N.jts, j.name.size ≤ 1048576 ∧ j.ends.length ≤ 1048576) (hp : PcsAt w a N.pcs) (hj : JtsAt w a' N.jts) :
    Calls Try.prog 20 #[.agg #[.slice a N.pcs.length cap, .slice a' N.jts.length cap'], .agg #[.int .i64 p, .int .i64 s]] w fun e w' =>
    ∃ r, e = .returned (.int .i64 r) ∧ JA N (p, s) r ∧ Below w.heap.size w w' := by
  have HP := hide hp
  have HJ := hide hj
  have HM := hide hm
  have HS := hide hs
  clear hp hj hm hs
  go_enter Try.func20, Try.ntmps20
  go_wp2_with fail
  have hbW : Below w.heap.size w ((w.alloc (.cells #[.slice a N.pcs.length cap, .slice a' N.jts.length cap'] 33)).alloc (.cells #[.int .i64 p, .int .i64 s] 41)) := ((Below.refl _ _).alloc (Nat.le_refl _) _).alloc (by simp) _
  refine (l1ok_any a a' N cap cap' _ hn HS.out hl HM.out (HP.out.later hbW) (HJ.out.later hbW)).mono ?_
  rintro e w1 ⟨rfl, hb1⟩
  have hb2 := hbW.trans (hb1.mono hbW.size)
  obtain ⟨hc, hf⟩ := bcell hb1
  have n0 : w1.cell? ⟨w.heap.size, 0, none⟩ = some (.slice a N.pcs.length cap) := by rw [hc _ _ (by simp; omega)]; simp [go_sem]
  have n1 : w1.cell? ⟨w.heap.size, 1, none⟩ = some (.slice a' N.jts.length cap') := by rw [hc _ _ (by simp; omega)]; simp [go_sem]
  have e0 : w1.cell? ⟨w.heap.size + 1, 0, none⟩ = some (.int .i64 p) := by rw [hc _ _ (by simp)]; simp [go_sem]
  have e1 : w1.cell? ⟨w.heap.size + 1, 1, none⟩ = some (.int .i64 s) := by rw [hc _ _ (by simp)]; simp [go_sem]
  clear hc hf hb1
  cases hr : decide (netOk N = (0, 0))
  · have HR := hide hr
    clear hr
    go_wp2_with fail
    go_ret
    exact ⟨-1, rfl, Or.inr ⟨fun h => (of_decide_eq_false HR.out) h.1, rfl⟩, hb2⟩
  · have HR := hide hr
    clear hr
    go_wp2_with fail
    refine (l1end_any _ _ _ _ _ _ _ _ _ hn).mono ?_
    rintro e w2 ⟨rfl, hb3⟩
    have hb4 := hb2.trans (hb3.mono hb2.size)
    have n0 := cell_later' hb3 n0
    have n1 := cell_later' hb3 n1
    have e0 := cell_later' hb3 e0
    have e1 := cell_later' hb3 e1
    cases hk : endOk N.pcs.length (p, s)
    · have HK := hide hk
      clear hk
      go_wp2_with fail
      go_ret
      exact ⟨-1, rfl, Or.inr ⟨fun h => by rw [HK.out] at h; exact absurd h.2 (by simp), rfl⟩, hb4⟩
    · have HK := hide hk
      clear hk
      go_wp2_with fail
      refine (l1at_any _ _ _ _ _ N.jts p s _ hl (fun j hj => (HM.out j hj).2) (HJ.out.later hb4)).mono ?_
      rintro e w3 ⟨x, y, rfl, hxy, hb5⟩
      have HXY := hide hxy
      clear hxy
      have hb6 := hb4.trans (hb5.mono hb4.size)
      go_wp2_with fail
      go_ret
      refine ⟨x, rfl, ?_, hb6⟩
      have hright := of_decide_eq_true HR.out
      rcases HXY.out with ⟨j, i, rfl, _, hat⟩ | hno
      · exact Or.inl ⟨j, i, hright, hat, rfl⟩
      · obtain ⟨j, i, hat⟩ := at_of_uses (js := N.jts) (e := (p, s)) (by rw [uses_right hright HK.out]; omega)
        exact absurd hat (hno j i)
end Go.Proofs.Ytplnppdlabpodaa

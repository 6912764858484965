import Derived.Test.YtplnppdlabpodaaOvA
import Derived.Test.YtplnppdlabpodaaJaC
namespace Go.Proofs.Ytplnppdlabpodaa
open Go.RowKit
set_option maxHeartbeats 1000000

/-- What Across answers. -/
def AC (N : Nt) (e : Int × Int) (l : List (Int × Int)) : Prop :=
  (∃ (j i : Nat) (hj : j < N.jts.length), netOk N = (0, 0) ∧ At N.jts e j i ∧ l = acr N.jts[j] i) ∨ (¬ (netOk N = (0, 0) ∧ endOk N.pcs.length e = true) ∧ l = [])

theorem AC.unique {N : Nt} {e : Int × Int} {l l' : List (Int × Int)} (h : AC N e l) (h' : AC N e l') : l = l' := by
  rcases h with ⟨j, i, hj, hr, hat, rfl⟩ | ⟨hn, rfl⟩
  · have hok := endOk_of_at (right_facts hr).2.2.1 hat
    rcases h' with ⟨j', i', hj', _, hat', rfl⟩ | ⟨hn', rfl⟩
    · obtain ⟨rfl, rfl⟩ := hat.unique hat' (uses_right hr hok)
      rfl
    · exact absurd ⟨hr, hok⟩ hn'
  · rcases h' with ⟨j', i', _, hr, hat', rfl⟩ | ⟨hn', rfl⟩
    · exact absurd ⟨hr, endOk_of_at (right_facts hr).2.2.1 hat'⟩ hn
    · rfl

theorem NewEnds.mono {B B' : Nat} {w : World} {v : Value} {l} (h : NewEnds B w v l) (hB : B' ≤ B) : NewEnds B' w v l := by
  obtain ⟨a, cap, h1, h2, h3⟩ := h
  refine ⟨a, cap, h1, h2, ?_⟩
  rcases h3 with h3 | ⟨b, h4, h5⟩
  · exact Or.inl h3
  · exact Or.inr ⟨b, by omega, h5⟩

theorem specAcross_any (a a' : Option Addr) (N : Nt) (cap cap' : Nat) (p s : Int) (w : World) (hn : N.pcs.length ≤ 1048576) (hs : ∀ p ∈ N.pcs, p.name.size ≤ 1048576) (hl : N.jts.length ≤ 1048576) (hm : ∀ j ∈ N.jts, j.name.size ≤ 1048576 ∧ j.ends.length ≤ 1048576) (hp : PcsAt w a N.pcs) (hj : JtsAt w a' N.jts) :
    Calls Try.prog 23 #[.agg #[.slice a N.pcs.length cap, .slice a' N.jts.length cap'], .agg #[.int .i64 p, .int .i64 s]] w fun e w' =>
    ∃ v l, e = .returned v ∧ AC N (p, s) l ∧ NewEnds w.heap.size w' v l ∧ Below w.heap.size w w' := by
  have HP := hide hp
  have HJ := hide hj
  have HM := hide hm
  have HS := hide hs
  clear hp hj hm hs
  go_enter Try.func23, Try.ntmps23
  go_wp2_with fail
  have hbW : Below w.heap.size w ((w.alloc (.cells #[.slice a N.pcs.length cap, .slice a' N.jts.length cap'] 33)).alloc (.cells #[.int .i64 p, .int .i64 s] 41)) := ((Below.refl _ _).alloc (Nat.le_refl _) _).alloc (by simp) _
  refine (l1ok_any a a' N cap cap' _ hn HS.out hl HM.out (HP.out.later hbW) (HJ.out.later hbW)).mono ?_
  rintro e w1 ⟨rfl, hb1⟩
  have hb2 := hbW.trans (hb1.mono hbW.size)
  obtain ⟨hc, hf⟩ := bcell hb1
  have n0 : w1.cell? ⟨w.heap.size, 0, none⟩ = some (.slice a N.pcs.length cap) := by rw [hc _ _ (by simp; omega)]; simp [go_sem]
  have n1 : w1.cell? ⟨w.heap.size, 1, none⟩ = some (.slice a' N.jts.length cap') := by rw [hc _ _ (by simp; omega)]; simp [go_sem]
  have e0 : w1.cell? ⟨w.heap.size + 1, 0, none⟩ = some (.int .i64 p) := by rw [hc _ _ (by simp)]; simp [go_sem]
  have e1 : w1.cell? ⟨w.heap.size + 1, 1, none⟩ = some (.int .i64 s) := by rw [hc _ _ (by simp)]; simp [go_sem]
  clear hc hf hb1
  cases hr : decide (netOk N = (0, 0))
  · have HR := hide hr
    clear hr
    go_wp2_with fail
    go_ret
    exact ⟨_, [], rfl, Or.inr ⟨fun h => (of_decide_eq_false HR.out) h.1, rfl⟩, newEnds_nil _ _, hb2⟩
  · have HR := hide hr
    clear hr
    go_wp2_with fail
    refine (l1end_any _ _ _ _ _ _ _ _ _ hn).mono ?_
    rintro e w2 ⟨rfl, hb3⟩
    have hb4 := hb2.trans (hb3.mono hb2.size)
    have n0 := cell_later' hb3 n0
    have n1 := cell_later' hb3 n1
    have e0 := cell_later' hb3 e0
    have e1 := cell_later' hb3 e1
    cases hk : endOk N.pcs.length (p, s)
    · have HK := hide hk
      clear hk
      go_wp2_with fail
      go_ret
      exact ⟨_, [], rfl, Or.inr ⟨fun h => by rw [HK.out] at h; exact absurd h.2 (by simp), rfl⟩, newEnds_nil _ _, hb4⟩
    · have HK := hide hk
      clear hk
      go_wp2_with fail
      refine (l1at_any _ _ _ _ _ N.jts p s _ hl (fun j hj => (HM.out j hj).2) (HJ.out.later hb4)).mono ?_
      rintro e w3 ⟨x, y, rfl, hxy, hb5⟩
      have hb6 := hb4.trans (hb5.mono hb4.size)
      have hright := of_decide_eq_true HR.out
      have hxy' : ∃ j i : Nat, x = j ∧ y = i ∧ At N.jts (p, s) j i := by
        rcases hxy with h | hno
        · exact h
        · obtain ⟨j, i, hat⟩ := at_of_uses (js := N.jts) (e := (p, s)) (by rw [uses_right hright HK.out]; omega)
          exact absurd hat (hno j i)
      obtain ⟨j, i, rfl, rfl, hat⟩ := hxy'
      have HAT := hide hat
      have HRT := hide hright
      obtain ⟨hjl, hil, hel⟩ := hat
      clear hel hxy hright
      obtain ⟨b, off, ea, ec, rfl, c0, c1, c2, ce⟩ := (JtsAt.later HJ.out hb6) j hjl
      have CE := hide ce
      have n1 := cell_later' hb5 n1
      have HB3 := hide (show jb3 N.pcs.length N.jts[j] = false by rw [← jtBad3_jb3 hjl]; exact (right_facts HRT.out).2.2.1 j hjl)
      clear ce hb5
      go_wp2_with fail
      refine (l1across_any N.pcs.length N.jts[j] ea ec i _ HB3.out hil CE.out).mono ?_
      rintro e w4 ⟨v, rfl, hNE, hb7⟩
      have HNE := hide hNE
      have hb8 := hb6.trans (hb7.mono hb6.size)
      clear hNE
      go_wp2_with fail
      go_ret
      exact ⟨v, acr N.jts[j] i, rfl, Or.inl ⟨j, i, hjl, HRT.out, HAT.out, rfl⟩, HNE.out.mono hb6.size, hb8⟩

theorem implAcross_any (a a' : Option Addr) (N : Nt) (cap cap' : Nat) (p s : Int) (w : World) (hwf : Wf2 (p, s)) (hn : N.pcs.length ≤ 1048576) (hs : ∀ p ∈ N.pcs, p.name.size ≤ 1048576) (hl : N.jts.length ≤ 1048576) (hm : ∀ j ∈ N.jts, j.name.size ≤ 1048576 ∧ j.ends.length ≤ 1048576) (hp : PcsAt w a N.pcs) (hj : JtsAt w a' N.jts) :
    Calls Try.prog 24 #[.agg #[.slice a N.pcs.length cap, .slice a' N.jts.length cap'], .agg #[.int .i64 p, .int .i64 s]] w fun e w' =>
    ∃ v l, e = .returned v ∧ AC N (p, s) l ∧ NewEnds w.heap.size w' v l ∧ Below w.heap.size w w' := by
  have HP := hide hp
  have HJ := hide hj
  have HM := hide hm
  have HS := hide hs
  clear hp hj hm hs
  go_enter Try.func24, Try.ntmps24
  go_wp2_with fail
  have hbW : Below w.heap.size w ((w.alloc (.cells #[.slice a N.pcs.length cap, .slice a' N.jts.length cap'] 33)).alloc (.cells #[.int .i64 p, .int .i64 s] 41)) := ((Below.refl _ _).alloc (Nat.le_refl _) _).alloc (by simp) _
  refine (seatOf_any a a' N cap cap' p s _ hwf hn HS.out hl HM.out (HP.out.later hbW) (HJ.out.later hbW)).mono ?_
  rintro e w1 ⟨x, y, z, ok, rfl, hSI, hb1⟩
  have hb2 := hbW.trans (hb1.mono hbW.size)
  obtain ⟨hc, hf⟩ := bcell hb1
  have n1 : w1.cell? ⟨w.heap.size, 1, none⟩ = some (.slice a' N.jts.length cap') := by rw [hc _ _ (by simp; omega)]; simp [go_sem]
  clear hc hf hb1
  have HSI := hide hSI
  clear hSI
  cases ok
  · go_wp2_with fail
    go_ret
    exact ⟨_, [], rfl, Or.inr ⟨HSI.out.2 rfl, rfl⟩, newEnds_nil _ _, hb2.alloc hb2.size _⟩
  · obtain ⟨hr, j, i, h1, h2, hat⟩ := HSI.out.1 rfl
    simp only at h1 h2
    subst h1
    subst h2
    have HAT := hide hat
    have HRT := hide hr
    obtain ⟨hjl, hil, hel⟩ := hat
    clear hel hr
    have hz := cell_lt n1
    have hbX := hb2.alloc hb2.size (.cells #[.int .i64 j, .int .i64 i, .int .i64 z] 105)
    obtain ⟨b, off, ea, ec, rfl, c0, c1, c2, ce⟩ := (JtsAt.later HJ.out hb2) j hjl
    have hblt := cell_lt c0
    have hA : Below w1.heap.size w1 (w1.alloc (.cells #[.int .i64 j, .int .i64 i, .int .i64 z] 105)) := (Below.refl _ _).alloc (Nat.le_refl _) _
    have CE := hide (ce.later hA.drew)
    have HB3 := hide (show jb3 N.pcs.length N.jts[j] = false by rw [← jtBad3_jb3 hjl]; exact (right_facts HRT.out).2.2.1 j hjl)
    clear ce hA
    have hj0 : (0 : Int) ≤ (j : Int) := by omega
    have hj1 : (j : Int) < (N.jts.length : Int) := by omega
    have hXs : w.heap.size ≤ (w1.alloc (.cells #[.int .i64 j, .int .i64 i, .int .i64 z] 105)).drew.heap.size := hbX.size
    go_wp2_with fail
    go_region_with (go_at_call 83; refine (over_any N.pcs.length N.jts[j] ea ec i _ HB3.out hil ?_).mono ?_; exact CE.out; rintro e w4 ⟨v, rfl, hNE, hb7⟩)
    all_goals
      have HNE := hide (hNE.mono hXs)
      have hbf := hbX.drew.trans (hb7.mono hXs)
      clear hNE hb7
      go_wp2_with fail
      go_ret
      exact ⟨v, acr N.jts[j] i, rfl, Or.inl ⟨j, i, hjl, HRT.out, HAT.out, rfl⟩, HNE.out, hbf⟩
end Go.Proofs.Ytplnppdlabpodaa

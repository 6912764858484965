/- spec.PathLies. Own work. -/
import Derived.Test.YtplnppdlabpodaaWsB
import Derived.Test.YtplnppdlabpodaaMxAC
namespace Go.Proofs.Ytplnppdlabpodaa
open Go.RowKit
set_option maxHeartbeats 4000000

theorem specPathLies_any (a a' z : Option Addr) (N : Nt) (cap cap' zc : Nat) (ss : List (Int × Int)) (w : World) (hn : N.pcs.length ≤ 1048576) (hs : ∀ p ∈ N.pcs, p.name.size ≤ 1048576) (hl : N.jts.length ≤ 1048576) (hm : ∀ j ∈ N.jts, j.name.size ≤ 1048576 ∧ j.ends.length ≤ 1048576) (hx : ss.length ≤ 1048576) (hp : PcsAt w a N.pcs) (hj : JtsAt w a' N.jts) (hz : EndsAt w z ss) :
    Calls Try.prog 55 #[.agg #[.slice a N.pcs.length cap, .slice a' N.jts.length cap'], .slice z ss.length zc] w fun e w' =>
    ∃ v, e = .returned v ∧ w'.ownsRow w.heap.size 132 2 v ((liesQ N ss).getD []).length (lieCells ((liesQ N ss).getD [])) ∧ ((liesQ N ss).getD []).length ≤ 400 ∧ Below w.heap.size w w' := by
  have HP := hide hp
  have HJ := hide hj
  have HZ := hide hz
  have HM := hide hm
  have HS := hide hs
  have HME := hide (fun j (hj : j ∈ N.jts) => (HM.out j hj).2)
  clear hp hj hz hm hs
  have hbW : Below w.heap.size w (w.alloc (.cells #[.slice a N.pcs.length cap, .slice a' N.jts.length cap'] 33)) := (Below.refl _ _).alloc (Nat.le_refl _) _
  have t0 : (w.alloc (.cells #[.slice a N.pcs.length cap, .slice a' N.jts.length cap'] 33)).cell? ⟨w.heap.size, 0, none⟩ = some (.slice a N.pcs.length cap) := new_cell w #[.slice a N.pcs.length cap, .slice a' N.jts.length cap'] 33 0 _ rfl
  have t1 : (w.alloc (.cells #[.slice a N.pcs.length cap, .slice a' N.jts.length cap'] 33)).cell? ⟨w.heap.size, 1, none⟩ = some (.slice a' N.jts.length cap') := new_cell w #[.slice a N.pcs.length cap, .slice a' N.jts.length cap'] 33 1 _ rfl
  generalize hq : liesQ N ss = Q
  have HQ := hide hq
  clear hq
  go_enter Try.func55, Try.ntmps55
  go_upto_region 1 with fail
  generalize w.alloc (.cells #[.slice a N.pcs.length cap, .slice a' N.jts.length cap'] 33) = w1 at *
  go_wp2_with fail
  refine (l1ok_any a a' N cap cap' _ hn HS.out hl HM.out (HP.out.later hbW) (HJ.out.later hbW)).mono ?_
  rintro e w2 ⟨rfl, hb2⟩
  have hbW := hbW.trans (hb2.mono hbW.size)
  have t0 := cell_later' hb2 t0
  have t1 := cell_later' hb2 t1
  clear hb2
  by_cases hr : netOk N = (0, 0)
  · have HRT := hide hr
    have qd : decide (netOk N = (0, 0)) = true := decide_eq_true hr
    rw [qd]
    clear hr qd
    by_cases h4 : (400 : Int) < (ss.length : Int)
    · have q4 : decide ((400 : Int) < (ss.length : Int)) = true := decide_eq_true h4
      have HN := hide (show Q = none by
        rw [← HQ.out]
        unfold liesQ
        rw [if_neg]
        intro h
        have := h.2
        simp only [stepsP, Bool.and_eq_true, decide_eq_true_eq] at this
        omega)
      clear h4
      go_wp2_with fail
      go_ret
      rw [HN.out]
      exact ⟨_, rfl, World.ownsRow_nil _ _ _ _, by simp, hbW⟩
    · have q4 : decide ((400 : Int) < (ss.length : Int)) = false := decide_eq_false h4
      have HL4 := hide (show ss.length ≤ 400 by omega)
      clear h4
      go_wp2_with fail
      go_loopw [6, 19] (fun _ i wr => ∃ (k : Nat), k ≤ ss.length ∧ i = .int .i64 k ∧ Hid (∀ j (_ : j < k) (hj : j < ss.length), stepOk N.pcs.length ss[j] = true) ∧ wr.cell? ⟨w.heap.size, 0, none⟩ = some (.slice a N.pcs.length cap) ∧ wr.cell? ⟨w.heap.size, 1, none⟩ = some (.slice a' N.jts.length cap') ∧ Below w.heap.size w wr) (fun _ i _ => ss.length - (intOf i).toNat)
      case atStart => exact ⟨0, Nat.zero_le _, rfl, (fun j hj => by omega), t0, t1, hbW⟩
      case round =>
        obtain ⟨k, hk, rfl, hall, t0, t1, hb⟩ := hrel
        have hz0 := cell_lt t0
        by_cases hlt : k < ss.length
        · obtain ⟨b, off, rfl, c0, c1⟩ := (EndsAt.later HZ.out hb) k hlt
          have hki : (k : Int) < (ss.length : Int) := by omega
          have hblt := cell_lt c0
          have hA := hb.alloc hb.size (.cells #[.int .i64 ss[k].1, .int .i64 ss[k].2] 125)
          have hA1 : Below wr.heap.size wr (wr.alloc (.cells #[.int .i64 ss[k].1, .int .i64 ss[k].2] 125)) := (Below.refl _ _).alloc (Nat.le_refl _) _
          have T0 := hide (cell_later' hA1 t0)
          have T1 := hide (cell_later' hA1 t1)
          have HBAD := hide (show stepOk N.pcs.length ss[k] = false → Q = none from fun h => by
            rw [← HQ.out]
            unfold liesQ
            rw [if_neg]
            intro h'
            have h2 := h'.2
            simp only [stepsP, Bool.and_eq_true] at h2
            have h3 := h2.2
            rw [List.all_eq_true] at h3
            have := h3 _ (List.getElem_mem hlt)
            rw [h] at this
            cases this)
          have HOK := hide (show stepOk N.pcs.length ss[k] = (inR ss[k].1 0 ((N.pcs.length : Int) - 1) && (ss[k].2 == 1 || ss[k].2 == -1)) from rfl)
          clear hA1
          generalize hs : ss[k] = s at *
          obtain ⟨q, y⟩ := s
          dsimp only at *
          have HS1 := hide hs
          clear hs
          cases h1 : inR q 0 ((N.pcs.length : Int) - 1)
          · have H1 := hide h1
            clear h1
            go_wp2_with fail
            refine (l1in_b H1.out _).mono ?_
            rintro e w3 ⟨rfl, rfl⟩
            go_wp2_with fail
            go_ret
            rw [HBAD.out (by rw [HOK.out, H1.out]; rfl)]
            exact ⟨_, rfl, World.ownsRow_nil _ _ _ _, by simp, hA⟩
          · have H1 := hide h1
            clear h1
            by_cases hy1 : y = 1
            · subst hy1
              have HY := hide (show stepOk N.pcs.length (q, 1) = true by rw [HOK.out, H1.out]; rfl)
              go_wp2_with fail
              refine (l1in_b H1.out _).mono ?_
              rintro e w3 ⟨rfl, rfl⟩
              go_wp2_with fail
              refine ⟨⟨k + 1, by omega, by go_num, ?_, T0.out, T1.out, hA⟩, by simp [intOf]; omega⟩
              intro j hj hj'
              by_cases e : j = k
              · subst e; rw [HS1.out]; exact HY.out
              · exact hall.out j (by omega) hj'
            · by_cases hy2 : y = -1
              · subst hy2
                have HY := hide (show stepOk N.pcs.length (q, -1) = true by rw [HOK.out, H1.out]; rfl)
                clear hy1
                go_wp2_with fail
                refine (l1in_b H1.out _).mono ?_
                rintro e w3 ⟨rfl, rfl⟩
                go_wp2_with fail
                refine ⟨⟨k + 1, by omega, by go_num, ?_, T0.out, T1.out, hA⟩, by simp [intOf]; omega⟩
                intro j hj hj'
                by_cases e : j = k
                · subst e; rw [HS1.out]; exact HY.out
                · exact hall.out j (by omega) hj'
              · have q1 : (y != 1) = true := by rw [bne_iff_ne]; exact hy1
                have q2 : (y != -1) = true := by rw [bne_iff_ne]; exact hy2
                have HY := hide (show stepOk N.pcs.length (q, y) = false by
                  rw [HOK.out, H1.out, Bool.true_and, Bool.or_eq_false_iff, beq_eq_false_iff_ne, beq_eq_false_iff_ne]
                  exact ⟨hy1, hy2⟩)
                clear hy1 hy2
                go_wp2_with fail
                refine (l1in_b H1.out _).mono ?_
                rintro e w3 ⟨rfl, rfl⟩
                go_wp2_with fail
                go_ret
                rw [HBAD.out HY.out]
                exact ⟨_, rfl, World.ownsRow_nil _ _ _ _, by simp, hA⟩
        · have HSP := hide (show stepsP N ss = true by
            simp only [stepsP, Bool.and_eq_true, decide_eq_true_eq]
            refine ⟨HL4.out, ?_⟩
            rw [List.all_eq_true]
            intro s hs
            obtain ⟨j, hj, rfl⟩ := List.getElem_of_mem hs
            exact hall.out j (by omega) hj)
          go_wp2_with fail
          refine (l4lies_any a a' z N cap cap' zc ss _ hn hl HME.out HRT.out HSP.out (HJ.out.later hb) (HZ.out.later hb)).mono ?_
          rintro e w3 ⟨v, ok, rfl, hR, hb3⟩
          have HB := hide (hb.trans (hb3.mono hb.size))
          have hsz := hb.size
          unfold LiesR at hR
          rw [HQ.out] at hR
          have HR := hide hR
          clear hR hb3
          cases ok
          · have HN := hide (show Q = none by
              rcases HR.out with ⟨h, _⟩ | ⟨_, _, h, _⟩
              · exact h
              · cases h)
            go_wp2_with fail
            go_ret
            rw [HN.out]
            exact ⟨_, rfl, World.ownsRow_nil _ _ _ _, by simp, HB.out⟩
          · go_wp2_with fail
            go_ret
            rcases HR.out with ⟨_, _, h⟩ | ⟨out, h, _, hlen, how⟩
            · cases h
            · rw [h]
              exact ⟨v, rfl, owns_low how hsz, hlen, HB.out⟩
  · have qd : decide (netOk N = (0, 0)) = false := decide_eq_false hr
    rw [qd]
    have HN := hide (show Q = none by
      rw [← HQ.out]
      unfold liesQ
      rw [if_neg (fun h => hr h.1)])
    clear hr qd
    go_wp2_with fail
    go_ret
    rw [HN.out]
    exact ⟨_, rfl, World.ownsRow_nil _ _ _ _, by simp, hbW⟩
end Go.Proofs.Ytplnppdlabpodaa

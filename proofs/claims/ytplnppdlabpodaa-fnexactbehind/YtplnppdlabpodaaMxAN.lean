/- impl.Turn. Own work. -/
import Derived.Test.YtplnppdlabpodaaImS
import Derived.Test.YtplnppdlabpodaaCuY
import Derived.Test.YtplnppdlabpodaaLwAhead
import Derived.Test.YtplnppdlabpodaaLwBehind
import Derived.Test.YtplnppdlabpodaaMxAF
namespace Go.Proofs.Ytplnppdlabpodaa
open Go.RowKit
set_option maxHeartbeats 2000000

theorem implTurn_any : TurnDone := by
  intro a a' N cap cap' q at' way w hwf hn hs hl hm hp hj
  have HP := hide hp
  have HJ := hide hj
  have HM := hide hm
  have HS := hide hs
  have HWF := hide hwf
  clear hp hj hm hs hwf
  go_enter Try.func33, Try.ntmps33
  go_wp2_with fail
  have hbW : Below w.heap.size w (((w.alloc (.cells #[.slice a N.pcs.length cap, .slice a' N.jts.length cap'] 33)).alloc (.cells #[.int .i64 q, .int .i64 at', .int .i64 way] 52)).alloc (.cells #[.int .i64 0, .int .i64 0, .int .i64 0] 52)) := (((Below.refl _ _).alloc (Nat.le_refl _) _).alloc (by simp) _).alloc (by simp; omega) _
  refine (implSpotOk_any a a' N cap cap' q at' way _ HWF.out hn HS.out hl HM.out (HP.out.later hbW) (HJ.out.later hbW)).mono ?_
  rintro e w1 ⟨rfl, hb1⟩
  have hb2 := hbW.trans (hb1.mono hbW.size)
  obtain ⟨hc, hf⟩ := bcell hb1
  have e0 : w1.cell? ⟨w.heap.size + 1, 0, none⟩ = some (.int .i64 q) := by rw [hc _ _ (by simp)]; simp [go_sem]
  have e1 : w1.cell? ⟨w.heap.size + 1, 1, none⟩ = some (.int .i64 at') := by rw [hc _ _ (by simp)]; simp [go_sem]
  have e2 : w1.cell? ⟨w.heap.size + 1, 2, none⟩ = some (.int .i64 way) := by rw [hc _ _ (by simp)]; simp [go_sem]
  have ef : w1.frozen? ⟨w.heap.size + 1, 2, none⟩ = false := by rw [hf _ _ (by simp)]; simp [go_sem]
  have r0 : w1.cell? ⟨w.heap.size + 1 + 1, 0, none⟩ = some (.int .i64 0) := by rw [hc _ _ (by simp)]; simp [go_sem]
  have r1 : w1.cell? ⟨w.heap.size + 1 + 1, 1, none⟩ = some (.int .i64 0) := by rw [hc _ _ (by simp)]; simp [go_sem]
  have r2 : w1.cell? ⟨w.heap.size + 1 + 1, 2, none⟩ = some (.int .i64 0) := by rw [hc _ _ (by simp)]; simp [go_sem]
  have f0 : w1.frozen? ⟨w.heap.size + 1 + 1, 0, none⟩ = false := by rw [hf _ _ (by simp)]; simp [go_sem]
  have f1 : w1.frozen? ⟨w.heap.size + 1 + 1, 1, none⟩ = false := by rw [hf _ _ (by simp)]; simp [go_sem]
  have f2 : w1.frozen? ⟨w.heap.size + 1 + 1, 2, none⟩ = false := by rw [hf _ _ (by simp)]; simp [go_sem]
  clear hc hf hb1
  cases hr : spotOkP N q at' way
  · have HR := hide hr
    clear hr
    go_wp2_with fail
    exact bodyPost_ret (v := .agg #[.int .i64 0, .int .i64 0, .int .i64 0]) (by simp [results, Try.results33, go_sem, r0, r1, r2]) rfl ⟨by rw [turnP, HR.out]; rfl, ((hb2.setCell (by simp; omega) _).setCell (by simp; omega) _).setCell (by simp; omega) _⟩
  · have HR := hide hr
    have hw := spotOk_way hr
    have hw0 : -1 ≤ way ∧ way ≤ 1 := by omega
    clear hr hw
    go_wp2_with fail
    refine bodyPost_ret (v := .agg #[.int .i64 q, .int .i64 at', .int .i64 (-way)]) (by simp [results, Try.results33, go_sem, r0, r1, r2]) rfl ⟨by rw [turnP, HR.out]; rfl, ?_⟩
    repeat (refine Below.setCell ?_ (by simp; try omega) _)
    exact hb2
end Go.Proofs.Ytplnppdlabpodaa

/- impl.Ahead, impl.Behind. Own work. -/
namespace Go.Proofs.Ytplnppdlabpodaa
open Go.RowKit
set_option maxHeartbeats 2000000

theorem implAhead_any : AheadDone := by
  intro a a' z N cap cap' zc xs q at' way far w hwf _ _ hn hs hl hm _ hp hj hz
  have HP := hide hp
  have HJ := hide hj
  have HZ := hide hz
  have HM := hide hm
  have HS := hide hs
  have HWF := hide hwf
  clear hp hj hz hm hs hwf
  have hbW : Below w.heap.size w ((w.alloc (.cells #[.slice a N.pcs.length cap, .slice a' N.jts.length cap'] 33)).alloc (.cells #[.int .i64 q, .int .i64 at', .int .i64 way] 52)) := ((Below.refl _ _).alloc (Nat.le_refl _) _).alloc (by simp) _
  go_enter Try.func41, Try.ntmps41
  go_wp2_with fail
  generalize ((w.alloc (.cells #[.slice a N.pcs.length cap, .slice a' N.jts.length cap'] 33)).alloc (.cells #[.int .i64 q, .int .i64 at', .int .i64 way] 52)) = w1 at *
  refine (drive_any a a' z N cap cap' zc xs q at' way far _ HWF.out hn HS.out hl HM.out (HP.out.later hbW) (HJ.out.later hbW) (HZ.out.later hbW)).mono ?_
  rintro e w2 ⟨⟨cd, f, jn, q2, a2, y2, ps2⟩, v, _, hAR, rfl, how, hb2⟩
  have HAR := hide hAR
  have HOW := hide (owns_low how hbW.size)
  have HB2 := hide (hbW.trans (hb2.mono hbW.size))
  clear hAR how hb2 hbW
  dsimp only
  go_wp2_with fail
  go_ret
  exact ⟨ps2, HAR.out, v, rfl, owns_later' HOW.out ((Below.refl _ _).alloc (Nat.le_refl _) _), HB2.out.alloc HB2.out.size _⟩

theorem wf3_turn {N : Nt} {q at' way : Int} (h : Wf3 q at' way) : Wf3 (turnP N q at' way).1 (turnP N q at' way).2.1 (turnP N q at' way).2.2 := by
  unfold turnP
  split
  · rename_i hs
    refine ⟨h.1, h.2.1, ?_⟩
    rcases spotOk_way hs with rfl | rfl <;> (dsimp only; decide)
  · exact ⟨by decide, by decide, by decide⟩

theorem behind_of {N : Nt} {xs : List Int} {q at' way far : Int} {ps : List (Int × Int × Int)} (h : AheadR N xs (turnP N q at' way).1 (turnP N q at' way).2.1 (turnP N q at' way).2.2 far ps) : BehindR N xs q at' way far ps := by
  unfold turnP at h
  unfold BehindR
  split at h
  · rename_i hs
    have hb : goodP N xs q at' (-way) far = goodP N xs q at' way far := by
      have h1 : spotP N q at' way = true := by
        simp only [spotOkP, Bool.and_eq_true] at hs
        exact hs.2
      have h2 := spot_back h1
      simp only [goodP, h1, h2]
    unfold AheadR at h
    dsimp only at h
    rw [hb] at h
    exact h
  · rename_i hs
    have hg : goodP N xs q at' way far = false := good_not1 (by simpa using hs)
    have hg0 : goodP N xs 0 0 0 far = false := by
      have : spotP N 0 0 0 = false := by simp [spotP]
      simp [goodP, this]
    unfold AheadR at h
    dsimp only at h
    rw [hg0] at h
    rw [hg]
    exact h

theorem implBehind_any : BehindDone := by
  intro a a' z N cap cap' zc xs q at' way far w hwf hff hxw hn hs hl hm hx hp hj hz
  have HP := hide hp
  have HJ := hide hj
  have HZ := hide hz
  have HM := hide hm
  have HS := hide hs
  have HWF := hide hwf
  have HT := hide (wf3_turn (N := N) hwf)
  have HFF := hide (And.intro hff (And.intro hxw hx))
  clear hp hj hz hm hs hwf hff hxw hx
  have hbW : Below w.heap.size w ((w.alloc (.cells #[.slice a N.pcs.length cap, .slice a' N.jts.length cap'] 33)).alloc (.cells #[.int .i64 q, .int .i64 at', .int .i64 way] 52)) := ((Below.refl _ _).alloc (Nat.le_refl _) _).alloc (by simp) _
  have HLS1 : Hid (LS w w ((w.alloc (.cells #[.slice a N.pcs.length cap, .slice a' N.jts.length cap'] 33)).alloc (.cells #[.int .i64 q, .int .i64 at', .int .i64 way] 52)) (.slice a N.pcs.length cap) (.slice a' N.jts.length cap') q at' way) :=
    ⟨⟨by simp [go_sem], by simp [go_sem], by simp [go_sem], by simp [go_sem], by simp [go_sem]⟩, hbW⟩
  clear hbW
  obtain ⟨t1, t2, t3, ht⟩ : ∃ t1 t2 t3, turnP N q at' way = (t1, t2, t3) := ⟨_, _, _, rfl⟩
  rw [ht] at HT
  have HTE := hide ht
  clear ht
  go_enter Try.func47, Try.ntmps47
  go_upto_region 1 with fail
  generalize ((w.alloc (.cells #[.slice a N.pcs.length cap, .slice a' N.jts.length cap'] 33)).alloc (.cells #[.int .i64 q, .int .i64 at', .int .i64 way] 52)) = w1 at *
  go_region_held3 (fun w' => LS w w w' (.slice a N.pcs.length cap) (.slice a' N.jts.length cap') q at' way)
    (first
      | (exact keepL ((Below.refl w1.heap.size w1).drew) HLS1.out)
      | (exact keepL (by assumption) (by assumption)))
    (first
      | (go_at_call 33; refine (implTurn_any a a' N cap cap' q at' way _ HWF.out hn HS.out hl HM.out (HP.out.later (heldB (keepL ((Below.refl w1.heap.size w1).drew) HLS1.out))) (HJ.out.later (heldB (keepL ((Below.refl w1.heap.size w1).drew) HLS1.out)))).mono ?_; rintro e w2 ⟨rfl, hb2⟩; rw [HTE.out]; dsimp only)
      | (go_at_call 41; refine (implAhead_any a a' z N cap cap' zc xs t1 t2 t3 far _ HT.out HFF.out.1 HFF.out.2.1 hn HS.out hl HM.out HFF.out.2.2 (HP.out.later (heldB (by assumption))) (HJ.out.later (heldB (by assumption))) (HZ.out.later (heldB (by assumption)))).mono ?_; rintro e w3 ⟨ps, hAR, v, rfl, how, hb3⟩))
  rename_i hH
  have HB := hide (heldB hH)
  have HAR := hide (behind_of (N := N) (q := q) (at' := at') (way := way) (by rw [HTE.out]; exact hAR))
  have h2 := Nat.le_trans (heldB (keepL ((Below.refl w1.heap.size w1).drew) HLS1.out)).size hb2.size
  have HOW := hide (owns_low how h2)
  clear hH hAR how hb2 hb3 h2
  go_wp2_with fail
  go_ret
  exact ⟨ps, HAR.out, v, rfl, HOW.out, HB.out⟩
end Go.Proofs.Ytplnppdlabpodaa

/- FnExactBehind, proved. Own work. -/
namespace Go.Proofs.Ytplnppdlabpodaa
theorem fnExactBehind_holds : Rows.FnExactBehindSaid := fnExactBehind_over implBehind_any
end Go.Proofs.Ytplnppdlabpodaa

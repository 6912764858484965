/- impl.Turn. Own work. -/
import Derived.Test.YtncanhbmbjoamaaGreatMxAV
import Derived.Test.YtncanhbmbjoamaaGreatCuY
import Derived.Test.YtncanhbmbjoamaaGreatLwAhead
import Derived.Test.YtncanhbmbjoamaaGreatLwBehind
import Derived.Test.YtncanhbmbjoamaaGreatPtS
import Derived.Test.YtncanhbmbjoamaaGreatMxAJ
import Derived.Sort.Grow
namespace Go.Proofs.YtncanhbmbjoamaaGreat
open Go.RowKit
set_option maxHeartbeats 2000000

theorem implTurn_any : TurnDone := by
  intro a a' N cap cap' q at' way w hwf hn hs hl hm hp hj
  have HP := hide hp
  have HJ := hide hj
  have HM := hide hm
  have HS := hide hs
  have HWF := hide hwf
  clear hp hj hm hs hwf
  go_enter Tryz.func21, Tryz.ntmps21
  go_wp2_with fail
  have hbW : Below w.heap.size w (((w.alloc (.cells #[.slice a N.pcs.length cap, .slice a' N.jts.length cap'] 26)).alloc (.cells #[.int .i64 q, .int .i64 at', .int .i64 way] 29)).alloc (.cells #[.int .i64 0, .int .i64 0, .int .i64 0] 29)) := (((Below.refl _ _).alloc (Nat.le_refl _) _).alloc (by simp) _).alloc (by simp; omega) _
  refine (implSpotOk_any a a' N cap cap' q at' way _ HWF.out hn HS.out hl HM.out (HP.out.later hbW) (HJ.out.later hbW)).mono ?_
  rintro e w1 ⟨rfl, hb1⟩
  have hb2 := hbW.trans (hb1.mono hbW.size)
  obtain ⟨hc, hf⟩ := bcell hb1
  have e0 : w1.cell? ⟨w.heap.size + 1, 0, none⟩ = some (.int .i64 q) := by rw [hc _ _ (by simp)]; simp [go_sem]
  have e1 : w1.cell? ⟨w.heap.size + 1, 1, none⟩ = some (.int .i64 at') := by rw [hc _ _ (by simp)]; simp [go_sem]
  have e2 : w1.cell? ⟨w.heap.size + 1, 2, none⟩ = some (.int .i64 way) := by rw [hc _ _ (by simp)]; simp [go_sem]
  have ef : w1.frozen? ⟨w.heap.size + 1, 2, none⟩ = false := by rw [hf _ _ (by simp)]; simp [go_sem]
  have r0 : w1.cell? ⟨w.heap.size + 1 + 1, 0, none⟩ = some (.int .i64 0) := by rw [hc _ _ (by simp)]; simp [go_sem]
  have r1 : w1.cell? ⟨w.heap.size + 1 + 1, 1, none⟩ = some (.int .i64 0) := by rw [hc _ _ (by simp)]; simp [go_sem]
  have r2 : w1.cell? ⟨w.heap.size + 1 + 1, 2, none⟩ = some (.int .i64 0) := by rw [hc _ _ (by simp)]; simp [go_sem]
  have f0 : w1.frozen? ⟨w.heap.size + 1 + 1, 0, none⟩ = false := by rw [hf _ _ (by simp)]; simp [go_sem]
  have f1 : w1.frozen? ⟨w.heap.size + 1 + 1, 1, none⟩ = false := by rw [hf _ _ (by simp)]; simp [go_sem]
  have f2 : w1.frozen? ⟨w.heap.size + 1 + 1, 2, none⟩ = false := by rw [hf _ _ (by simp)]; simp [go_sem]
  clear hc hf hb1
  cases hr : spotOkP N q at' way
  · have HR := hide hr
    clear hr
    go_wp2_with fail
    exact bodyPost_ret (v := .agg #[.int .i64 0, .int .i64 0, .int .i64 0]) (by simp [results, Tryz.results21, go_sem, r0, r1, r2]) rfl ⟨by rw [turnP, HR.out]; rfl, ((hb2.setCell (by simp; omega) _).setCell (by simp; omega) _).setCell (by simp; omega) _⟩
  · have HR := hide hr
    have hw := spotOk_way hr
    have hw0 : -1 ≤ way ∧ way ≤ 1 := by omega
    clear hr hw
    go_wp2_with fail
    refine bodyPost_ret (v := .agg #[.int .i64 q, .int .i64 at', .int .i64 (-way)]) (by simp [results, Tryz.results21, go_sem, r0, r1, r2]) rfl ⟨by rw [turnP, HR.out]; rfl, ?_⟩
    repeat (refine Below.setCell ?_ (by simp; try omega) _)
    exact hb2
end Go.Proofs.YtncanhbmbjoamaaGreat

/- impl.Ahead, impl.Behind. Own work. -/
namespace Go.Proofs.YtncanhbmbjoamaaGreat
open Go.RowKit
set_option maxHeartbeats 2000000

theorem implAhead_any : AheadDone := by
  intro a a' z N cap cap' zc xs q at' way far w hwf _ _ hn hs hl hm _ hp hj hz
  have HP := hide hp
  have HJ := hide hj
  have HZ := hide hz
  have HM := hide hm
  have HS := hide hs
  have HWF := hide hwf
  clear hp hj hz hm hs hwf
  have hbW : Below w.heap.size w ((w.alloc (.cells #[.slice a N.pcs.length cap, .slice a' N.jts.length cap'] 26)).alloc (.cells #[.int .i64 q, .int .i64 at', .int .i64 way] 29)) := ((Below.refl _ _).alloc (Nat.le_refl _) _).alloc (by simp) _
  go_enter Tryz.func11, Tryz.ntmps11
  go_wp2_with fail
  generalize ((w.alloc (.cells #[.slice a N.pcs.length cap, .slice a' N.jts.length cap'] 26)).alloc (.cells #[.int .i64 q, .int .i64 at', .int .i64 way] 29)) = w1 at *
  refine (drive_any a a' z N cap cap' zc xs q at' way far _ HWF.out hn HS.out hl HM.out (HP.out.later hbW) (HJ.out.later hbW) (HZ.out.later hbW)).mono ?_
  rintro e w2 ⟨⟨cd, f, jn, q2, a2, y2, ps2⟩, v, _, hAR, rfl, how, hb2⟩
  have HAR := hide hAR
  have HOW := hide (owns_low how hbW.size)
  have HB2 := hide (hbW.trans (hb2.mono hbW.size))
  clear hAR how hb2 hbW
  dsimp only
  go_wp2_with fail
  go_ret
  exact ⟨ps2, HAR.out, v, rfl, owns_later' HOW.out ((Below.refl _ _).alloc (Nat.le_refl _) _), HB2.out.alloc HB2.out.size _⟩

theorem wf3_turn {N : Nt} {q at' way : Int} (h : Wf3 q at' way) : Wf3 (turnP N q at' way).1 (turnP N q at' way).2.1 (turnP N q at' way).2.2 := by
  unfold turnP
  split
  · rename_i hs
    refine ⟨h.1, h.2.1, ?_⟩
    rcases spotOk_way hs with rfl | rfl <;> (dsimp only; decide)
  · exact ⟨by decide, by decide, by decide⟩

theorem behind_of {N : Nt} {xs : List Int} {q at' way far : Int} {ps : List (Int × Int × Int)} (h : AheadR N xs (turnP N q at' way).1 (turnP N q at' way).2.1 (turnP N q at' way).2.2 far ps) : BehindR N xs q at' way far ps := by
  unfold turnP at h
  unfold BehindR
  split at h
  · rename_i hs
    have hb : goodP N xs q at' (-way) far = goodP N xs q at' way far := by
      have h1 : spotP N q at' way = true := by
        simp only [spotOkP, Bool.and_eq_true] at hs
        exact hs.2
      have h2 := spot_back h1
      simp only [goodP, h1, h2]
    unfold AheadR at h
    dsimp only at h
    rw [hb] at h
    exact h
  · rename_i hs
    have hg : goodP N xs q at' way far = false := good_not1 (by simpa using hs)
    have hg0 : goodP N xs 0 0 0 far = false := by
      have : spotP N 0 0 0 = false := by simp [spotP]
      simp [goodP, this]
    unfold AheadR at h
    dsimp only at h
    rw [hg0] at h
    rw [hg]
    exact h

theorem implBehind_any : BehindDone := by
  intro a a' z N cap cap' zc xs q at' way far w hwf hff hxw hn hs hl hm hx hp hj hz
  have HP := hide hp
  have HJ := hide hj
  have HZ := hide hz
  have HM := hide hm
  have HS := hide hs
  have HWF := hide hwf
  have HT := hide (wf3_turn (N := N) hwf)
  have HFF := hide (And.intro hff (And.intro hxw hx))
  clear hp hj hz hm hs hwf hff hxw hx
  have hbW : Below w.heap.size w ((w.alloc (.cells #[.slice a N.pcs.length cap, .slice a' N.jts.length cap'] 26)).alloc (.cells #[.int .i64 q, .int .i64 at', .int .i64 way] 29)) := ((Below.refl _ _).alloc (Nat.le_refl _) _).alloc (by simp) _
  have HLS1 : Hid (LS w w ((w.alloc (.cells #[.slice a N.pcs.length cap, .slice a' N.jts.length cap'] 26)).alloc (.cells #[.int .i64 q, .int .i64 at', .int .i64 way] 29)) (.slice a N.pcs.length cap) (.slice a' N.jts.length cap') q at' way) :=
    ⟨⟨by simp [go_sem], by simp [go_sem], by simp [go_sem], by simp [go_sem], by simp [go_sem]⟩, hbW⟩
  clear hbW
  obtain ⟨t1, t2, t3, ht⟩ : ∃ t1 t2 t3, turnP N q at' way = (t1, t2, t3) := ⟨_, _, _, rfl⟩
  rw [ht] at HT
  have HTE := hide ht
  clear ht
  go_enter Tryz.func12, Tryz.ntmps12
  go_upto_region 1 with fail
  generalize ((w.alloc (.cells #[.slice a N.pcs.length cap, .slice a' N.jts.length cap'] 26)).alloc (.cells #[.int .i64 q, .int .i64 at', .int .i64 way] 29)) = w1 at *
  go_region_held3 (fun w' => LS w w w' (.slice a N.pcs.length cap) (.slice a' N.jts.length cap') q at' way)
    (first
      | (exact keepL ((Below.refl w1.heap.size w1).drew) HLS1.out)
      | (exact keepL (by assumption) (by assumption)))
    (first
      | (go_at_call 21; refine (implTurn_any a a' N cap cap' q at' way _ HWF.out hn HS.out hl HM.out (HP.out.later (heldB (keepL ((Below.refl w1.heap.size w1).drew) HLS1.out))) (HJ.out.later (heldB (keepL ((Below.refl w1.heap.size w1).drew) HLS1.out)))).mono ?_; rintro e w2 ⟨rfl, hb2⟩; rw [HTE.out]; dsimp only)
      | (go_at_call 11; refine (implAhead_any a a' z N cap cap' zc xs t1 t2 t3 far _ HT.out HFF.out.1 HFF.out.2.1 hn HS.out hl HM.out HFF.out.2.2 (HP.out.later (heldB (by assumption))) (HJ.out.later (heldB (by assumption))) (HZ.out.later (heldB (by assumption)))).mono ?_; rintro e w3 ⟨ps, hAR, v, rfl, how, hb3⟩))
  rename_i hH
  have HB := hide (heldB hH)
  have HAR := hide (behind_of (N := N) (q := q) (at' := at') (way := way) (by rw [HTE.out]; exact hAR))
  have h2 := Nat.le_trans (heldB (keepL ((Below.refl w1.heap.size w1).drew) HLS1.out)).size hb2.size
  have HOW := hide (owns_low how h2)
  clear hH hAR how hb2 hb3 h2
  go_wp2_with fail
  go_ret
  exact ⟨ps, HAR.out, v, rfl, HOW.out, HB.out⟩
end Go.Proofs.YtncanhbmbjoamaaGreat

/- Two sorted lists of parts: whether a part of the one and a part of the other meet. Own work. -/
namespace Go.Proofs.YtncanhbmbjoamaaGreat

/-- x lies ahead of y, without a common place. -/
def aheadP (x y : Prt) : Bool := decide (x.1 < y.1) || ((x.1 == y.1) && decide (x.2.2 < y.2.1))
/-- y is not ahead of x by piece and begin. -/
def leP (x y : Prt) : Prop := x.1 < y.1 ∨ (x.1 = y.1 ∧ x.2.1 ≤ y.2.1)
/-- In order, place by place. -/
def Sorted (l : List Prt) : Prop := ∀ i j (hi : i < l.length) (hj : j < l.length), i ≤ j → leP l[i] l[j]

theorem meets_ahead {x y y' : Prt} (h : aheadP x y = true) (hl : leP y y') : meets x y' = false := by
  unfold leP at hl
  unfold aheadP at h
  simp only [Bool.or_eq_true, Bool.and_eq_true, decide_eq_true_eq, beq_iff_eq] at h
  have : ¬ (x.1 = y'.1 ∧ y'.2.1 ≤ x.2.2) := by omega
  rw [Bool.eq_false_iff]
  intro hm
  unfold meets at hm
  simp only [Bool.and_eq_true, decide_eq_true_eq, beq_iff_eq] at hm
  exact this ⟨hm.1.1, hm.2⟩

theorem meets_comm (x y : Prt) : meets x y = meets y x := by
  rw [Bool.eq_iff_iff]
  simp only [meets, Bool.and_eq_true, decide_eq_true_eq, beq_iff_eq]
  omega

theorem meets_neither {x y : Prt} (h : aheadP x y = false) (h' : aheadP y x = false) : meets x y = true := by
  unfold aheadP at h h'
  simp only [Bool.or_eq_false_iff, Bool.and_eq_false_iff, decide_eq_false_iff_not, beq_eq_false_iff_ne, ne_eq] at h h'
  simp only [meets, Bool.and_eq_true, decide_eq_true_eq, beq_iff_eq]
  omega

def anyMeets (a b : List Prt) : Bool := a.any fun x => b.any (meets x)

theorem anyMeets_iff (a b : List Prt) : anyMeets a b = true ↔ ∃ x ∈ a, ∃ y ∈ b, meets x y = true := by
  simp [anyMeets, List.any_eq_true]

theorem anyMeets_left {a b : List Prt} {i k : Nat} (hi : i < a.length) (hk : k < b.length) (hb : Sorted b) (h : aheadP a[i] b[k] = true) : anyMeets (a.drop i) (b.drop k) = anyMeets (a.drop (i + 1)) (b.drop k) := by
  rw [Bool.eq_iff_iff, anyMeets_iff, anyMeets_iff, List.drop_eq_getElem_cons hi]
  constructor
  · rintro ⟨x, hx, y, hy, hm⟩
    rcases List.mem_cons.1 hx with rfl | hx
    · obtain ⟨n, hn, rfl⟩ := List.getElem_of_mem hy
      rw [List.getElem_drop] at hm
      rw [meets_ahead h (hb k (k + n) hk (by simp at hn; omega) (by omega))] at hm
      cases hm
    · exact ⟨x, hx, y, hy, hm⟩
  · rintro ⟨x, hx, y, hy, hm⟩
    exact ⟨x, List.mem_cons_of_mem _ hx, y, hy, hm⟩

theorem anyMeets_swap (a b : List Prt) : anyMeets a b = anyMeets b a := by
  rw [Bool.eq_iff_iff, anyMeets_iff, anyMeets_iff]
  constructor
  · rintro ⟨x, hx, y, hy, hm⟩
    exact ⟨y, hy, x, hx, by rw [meets_comm]; exact hm⟩
  · rintro ⟨x, hx, y, hy, hm⟩
    exact ⟨y, hy, x, hx, by rw [meets_comm]; exact hm⟩

theorem anyMeets_right {a b : List Prt} {i k : Nat} (hi : i < a.length) (hk : k < b.length) (ha : Sorted a) (h : aheadP b[k] a[i] = true) : anyMeets (a.drop i) (b.drop k) = anyMeets (a.drop i) (b.drop (k + 1)) := by
  rw [anyMeets_swap, anyMeets_left hk hi ha h, anyMeets_swap]

theorem anyMeets_here {a b : List Prt} {i k : Nat} (hi : i < a.length) (hk : k < b.length) (h : aheadP a[i] b[k] = false) (h' : aheadP b[k] a[i] = false) : anyMeets (a.drop i) (b.drop k) = true := by
  rw [anyMeets_iff]
  exact ⟨a[i], by rw [List.drop_eq_getElem_cons hi]; exact List.mem_cons_self, b[k], by rw [List.drop_eq_getElem_cons hk]; exact List.mem_cons_self, meets_neither h h'⟩

theorem anyMeets_end {a b : List Prt} {i k : Nat} (h : a.length ≤ i ∨ b.length ≤ k) : anyMeets (a.drop i) (b.drop k) = false := by
  rcases h with h | h
  · rw [List.drop_eq_nil_of_le h]; rfl
  · rw [List.drop_eq_nil_of_le h, anyMeets_swap]; rfl

theorem anyMeets_perm {a a' b b' : List Prt} (ha : a.Perm a') (hb : b.Perm b') : anyMeets a b = anyMeets a' b' := by
  rw [Bool.eq_iff_iff, anyMeets_iff, anyMeets_iff]
  constructor
  · rintro ⟨x, hx, y, hy, hm⟩
    exact ⟨x, ha.mem_iff.1 hx, y, hb.mem_iff.1 hy, hm⟩
  · rintro ⟨x, hx, y, hy, hm⟩
    exact ⟨x, ha.mem_iff.2 hx, y, hb.mem_iff.2 hy, hm⟩

theorem touchP_any (a b : List Prt) (ha : partsOkP a = true) (hb : partsOkP b = true) : touchP a b = anyMeets a b := by simp [touchP, ha, hb, anyMeets]
end Go.Proofs.YtncanhbmbjoamaaGreat

/- endsAhead, byBegin. Own work. -/
namespace Go.Proofs.YtncanhbmbjoamaaGreat
open Go.RowKit Go.Sort
set_option maxHeartbeats 2000000

theorem endsAhead_any (x y : Prt) (w : World) :
    Calls Tryz.prog 36 #[.agg #[.int .i64 x.1, .int .i64 x.2.1, .int .i64 x.2.2], .agg #[.int .i64 y.1, .int .i64 y.2.1, .int .i64 y.2.2]] w fun e w' => e = .returned (.bool (aheadP x y)) ∧ Below w.heap.size w w' := by
  obtain ⟨x0, x1, x2⟩ := x
  obtain ⟨y0, y1, y2⟩ := y
  have hbW : Below w.heap.size w ((w.alloc (.cells #[.int .i64 x0, .int .i64 x1, .int .i64 x2] 43)).alloc (.cells #[.int .i64 y0, .int .i64 y1, .int .i64 y2] 43)) := ((Below.refl _ _).alloc (Nat.le_refl _) _).alloc (by simp) _
  by_cases h1 : x0 < y0
  · have q1 : decide (x0 < y0) = true := decide_eq_true h1
    have HR := hide (show aheadP (x0, x1, x2) (y0, y1, y2) = true by simp [aheadP, h1])
    clear h1
    go_enter Tryz.func36, Tryz.ntmps36
    go_wp2_with fail
    go_ret
    exact ⟨ret_b HR.out.symm, hbW⟩
  · have q1 : decide (x0 < y0) = false := decide_eq_false h1
    by_cases h2 : x0 = y0
    · have q2 : (x0 == y0) = true := by rw [beq_iff_eq]; exact h2
      have HR := hide (show aheadP (x0, x1, x2) (y0, y1, y2) = decide (x2 < y1) by simp [aheadP, h2])
      clear h1 h2
      go_enter Tryz.func36, Tryz.ntmps36
      go_wp2_with fail
      go_ret
      exact ⟨ret_b HR.out.symm, hbW⟩
    · have q2 : (x0 == y0) = false := by rw [beq_eq_false_iff_ne]; exact h2
      have HR := hide (show aheadP (x0, x1, x2) (y0, y1, y2) = false by simp [aheadP, h1, h2])
      clear h1 h2
      go_enter Tryz.func36, Tryz.ntmps36
      go_wp2_with fail
      go_ret
      exact ⟨ret_b HR.out.symm, hbW⟩

def cmpI (x y : Int) : Int := if x < y then -1 else if y < x then 1 else 0
theorem isNaN_any (x : Int) (w : World) : Calls Tryz.prog 115 #[.int .i64 x] w fun e w' => e = .returned (.bool false) ∧ w = w' := by
  have q : (x != x) = false := by simp
  go_enter Tryz.func115, Tryz.ntmps115
  go_wp2_with fail
  go_ret
  exact ⟨ret_b (by simp), rfl⟩
theorem compare_any (x y : Int) (w : World) : Calls Tryz.prog 88 #[.int .i64 x, .int .i64 y] w fun e w' => e = .returned (.int .i64 (cmpI x y)) ∧ w = w' := by
  by_cases h1 : x < y
  · have q1 : decide (x < y) = true := decide_eq_true h1
    have HR := hide (show cmpI x y = -1 by simp [cmpI, h1])
    clear h1
    go_enter Tryz.func88, Tryz.ntmps88
    go_wp2_with (first | (go_at_call 115; refine (isNaN_any _ _).mono ?_; rintro e w1 ⟨rfl, rfl⟩))
    go_ret
    exact ⟨ret_i HR.out.symm, rfl⟩
  · by_cases h2 : y < x
    · have q1 : decide (x < y) = false := decide_eq_false h1
      have q2 : decide (y < x) = true := decide_eq_true h2
      have HR := hide (show cmpI x y = 1 by simp [cmpI, h1, h2])
      clear h1 h2
      go_enter Tryz.func88, Tryz.ntmps88
      go_wp2_with (first | (go_at_call 115; refine (isNaN_any _ _).mono ?_; rintro e w1 ⟨rfl, rfl⟩))
      go_ret
      exact ⟨ret_i HR.out.symm, rfl⟩
    · have q1 : decide (x < y) = false := decide_eq_false h1
      have q2 : decide (y < x) = false := decide_eq_false h2
      have HR := hide (show cmpI x y = 0 by simp [cmpI, h1, h2])
      clear h1 h2
      go_enter Tryz.func88, Tryz.ntmps88
      go_wp2_with (first | (go_at_call 115; refine (isNaN_any _ _).mono ?_; rintro e w1 ⟨rfl, rfl⟩))
      go_ret
      exact ⟨ret_i HR.out.symm, rfl⟩

def or2 (x y : Int) : Int := if x = 0 then y else x
theorem or2_any (b c : Nat) (x y : Int) (w : World) (h0 : w.cell? ⟨b, 0, none⟩ = some (.int .i64 x)) (h1 : w.cell? ⟨b, 1, none⟩ = some (.int .i64 y)) :
    Calls Tryz.prog 87 #[.slice (some ⟨b, 0, none⟩) 2 c] w fun e w' => e = .returned (.int .i64 (or2 x y)) ∧ w = w' := by
  go_enter Tryz.func87, Tryz.ntmps87
  go_wp2_with fail
  go_loop [5, 8] (fun _ i => ∃ k : Nat, k ≤ 2 ∧ i = .int .i64 k ∧ (1 ≤ k → x = 0) ∧ (2 ≤ k → y = 0)) (fun _ i => 2 - (intOf i).toNat)
  case atStart => exact ⟨0, by omega, rfl, by omega, by omega⟩
  case round =>
    obtain ⟨k, hk, rfl, hx, hy⟩ := hrel
    have hkk : k = 0 ∨ k = 1 ∨ k = 2 := by omega
    rcases hkk with rfl | rfl | rfl
    · by_cases hz : x = 0
      · subst hz
        clear hx hy
        go_wp2_with fail
        exact ⟨⟨1, by omega, rfl, fun _ => (by first | trivial | rfl), by omega⟩, by simp [intOf]⟩
      · have q : (x != 0) = true := by rw [bne_iff_ne]; exact hz
        have HR := hide (show or2 x y = x by simp [or2, hz])
        clear hz hx hy
        go_wp2_with fail
        go_ret
        exact ⟨ret_i HR.out.symm, rfl⟩
    · have hx0 := hx (by omega)
      subst hx0
      clear hx hy
      by_cases hz : y = 0
      · subst hz
        go_wp2_with fail
        exact ⟨⟨2, by omega, rfl, fun _ => (by first | trivial | rfl), fun _ => (by first | trivial | rfl)⟩, by simp [intOf]⟩
      · have q : (y != 0) = true := by rw [bne_iff_ne]; exact hz
        have HR := hide (show or2 0 y = y by simp [or2])
        clear hz
        go_wp2_with fail
        go_ret
        exact ⟨ret_i HR.out.symm, rfl⟩
    · have hx0 := hx (by omega)
      have hy0 := hy (by omega)
      subst hx0
      subst hy0
      clear hx hy
      go_wp2_with fail
      go_ret
      exact ⟨ret_i (by simp [or2]), rfl⟩

/-- What byBegin answers. -/
def byP (x y : Prt) : Int := or2 (cmpI x.1 y.1) (cmpI x.2.1 y.2.1)

abbrev BG (W wx : World) (x y : Prt) : Prop := (wx.cell? ⟨W.heap.size, 0, none⟩ = some (.int .i64 x.1) ∧ wx.cell? ⟨W.heap.size, 1, none⟩ = some (.int .i64 x.2.1) ∧ wx.cell? ⟨W.heap.size + 1, 0, none⟩ = some (.int .i64 y.1) ∧ wx.cell? ⟨W.heap.size + 1, 1, none⟩ = some (.int .i64 y.2.1)) ∧ Hid (∃ q os', wx = grow (W.drewN q) os')
theorem BG.alloc {W wx : World} {x y : Prt} (h : BG W wx x y) (o : Obj) : BG W (wx.alloc o) x y := by
  have hb := (Below.refl wx.heap.size wx).alloc (Nat.le_refl _) o
  refine ⟨⟨cell_later' hb h.1.1, cell_later' hb h.1.2.1, cell_later' hb h.1.2.2.1, cell_later' hb h.1.2.2.2⟩, ?_⟩
  obtain ⟨q, os', e⟩ := h.2.out
  exact ⟨q, os' ++ #[o], by rw [e, alloc_eq_grow, grow_grow]⟩

theorem BG.alloc_d {W wx : World} {x y : Prt} (h : BG W wx.drew x y) (o : Obj) : BG W (wx.alloc o).drew x y := h.alloc o

theorem byBegin_any (x y : Prt) (W : World) :
    Calls Tryz.prog 76 #[.agg #[.int .i64 x.1, .int .i64 x.2.1, .int .i64 x.2.2], .agg #[.int .i64 y.1, .int .i64 y.2.1, .int .i64 y.2.2]] W fun e w' => e = .returned (.int .i64 (byP x y)) ∧ ∃ q os', w' = grow (W.drewN q) os' := by
  obtain ⟨x0, x1, x2⟩ := x
  obtain ⟨y0, y1, y2⟩ := y
  have hBG : BG W ((W.alloc (.cells #[.int .i64 x0, .int .i64 x1, .int .i64 x2] 43)).alloc (.cells #[.int .i64 y0, .int .i64 y1, .int .i64 y2] 43)).drew (x0, x1, x2) (y0, y1, y2) :=
    ⟨⟨by simp [go_sem], by simp [go_sem], by simp [go_sem], by simp [go_sem]⟩, 1, #[_] ++ #[_], by rw [alloc_eq_grow, alloc_eq_grow, grow_grow]; rfl⟩
  have HBG := hide hBG
  clear hBG
  go_enter Tryz.func76, Tryz.ntmps76
  go_upto_region 1 with fail
  generalize ((W.alloc (.cells #[.int .i64 x0, .int .i64 x1, .int .i64 x2] 43)).alloc (.cells #[.int .i64 y0, .int .i64 y1, .int .i64 y2] 43)) = w1 at *
  go_region_held3 (fun wx => BG W wx (x0, x1, x2) (y0, y1, y2))
    (first
      | (with_reducible exact HBG.out)
      | (with_reducible assumption)
      | (with_reducible exact BG.alloc (by assumption) _)
      | (with_reducible exact BG.alloc_d HBG.out _))
    (first
      | (go_at_call 88; refine (compare_any _ _ _).mono ?_; rintro e w2 ⟨rfl, rfl⟩)
      | (go_at_call 87; refine (or2_any w1.heap.size _ (cmpI x0 y0) (cmpI x1 y1) (w1.alloc (.cells #[.int .i64 (cmpI x0 y0), .int .i64 (cmpI x1 y1)] 3)).drew (new_cell w1 #[.int .i64 (cmpI x0 y0), .int .i64 (cmpI x1 y1)] 3 0 _ rfl) (new_cell w1 #[.int .i64 (cmpI x0 y0), .int .i64 (cmpI x1 y1)] 3 1 _ rfl)).mono ?_; rintro e w2 ⟨rfl, rfl⟩))
  all_goals
    rename_i hH
    have HH := hide hH
    clear hH
    go_wp2_with fail
    go_ret
    exact ⟨rfl, HH.out.2.out⟩
end Go.Proofs.YtncanhbmbjoamaaGreat

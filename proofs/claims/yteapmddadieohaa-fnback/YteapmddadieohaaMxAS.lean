import Derived.Test.YteapmddadieohaaMxAR
import Derived.Test.YteapmddadieohaaSpC
import Derived.Test.YteapmddadieohaaMxAE
namespace Go.Proofs.Yteapmddadieohaa
open Go.RowKit
set_option maxHeartbeats 1000000

theorem sizeOk_bad (N : Nt) : (inR (N.pcs.length : Int) 1 100 && decide ((N.jts.length : Int) ≤ 120)) = !sizeBad N := by
  rw [Bool.eq_iff_iff]
  unfold sizeBad inR
  simp only [Bool.and_eq_true, decide_eq_true_eq, Bool.not_eq_true', Bool.or_eq_false_iff, decide_eq_false_iff_not]
  omega

theorem implNetOk_any (a a' : Option Addr) (N : Nt) (cap cap' : Nat) (w : World) (hn : N.pcs.length ≤ 1048576) (hs : ∀ p ∈ N.pcs, p.name.size ≤ 1048576) (hl : N.jts.length ≤ 1048576) (hm : ∀ j ∈ N.jts, j.name.size ≤ 1048576 ∧ j.ends.length ≤ 1048576) (hp : PcsAt w a N.pcs) (hj : JtsAt w a' N.jts) :
    Calls Try.prog 40 #[.agg #[.slice a N.pcs.length cap, .slice a' N.jts.length cap']] w fun e w' =>
    e = .returned (.agg #[.int .i64 (netOk N).1, .int .i64 (netOk N).2]) ∧ Below w.heap.size w w' := by
  have HP := hide hp
  have HJ := hide hj
  have HM := hide hm
  have HS := hide hs
  clear hp hj hm hs
  go_enter Try.func40, Try.ntmps40
  go_wp2_with fail
  have HNB0 : Hid (NB w ((w.alloc (.cells #[.slice a N.pcs.length cap, .slice a' N.jts.length cap'] 26)).alloc (.cells #[.int .i64 0, .int .i64 0] 81)) (.slice a N.pcs.length cap) (.slice a' N.jts.length cap')) :=
    ⟨by simp [go_sem], by simp [go_sem], by simp [go_sem], by simp [go_sem], by simp [go_sem], by simp [go_sem], ((Below.refl _ _).alloc (Nat.le_refl _) _).alloc (by simp) _⟩
  refine (sizeOk_any a a' _ _ cap cap' _).mono ?_
  rintro e w1 ⟨rfl, hb1⟩
  have HNB := hide (HNB0.out.later hb1)
  clear hb1 HNB0
  obtain ⟨n0, n1, r0, r1, f0, f1, hb⟩ := HNB.out
  rw [sizeOk_bad]
  cases hsb : sizeBad N
  case true =>
    have HSB := hide hsb
    clear hsb
    go_wp2_with fail
    exact bodyPost_ret (v := .agg #[.int .i64 1, .int .i64 0]) (by simp [results, Try.results40, go_sem, r0, r1]) rfl ⟨by rw [netOk_1 HSB.out], by repeat (first | exact hb | refine Below.setCell ?_ (by simp) _)⟩
  have HSB := hide hsb
  clear hsb
  go_wp2_with fail
  refine (wrongPiece_any a N.pcs cap _ hn HS.out (HP.out.later hb)).mono ?_
  rintro e w2 ⟨rfl, hb1⟩
  have HNB2 := hide (HNB.out.later hb1)
  clear hb1 HNB n0 n1 r0 r1 f0 f1 hb
  obtain ⟨n0, n1, r0, r1, f0, f1, hb⟩ := HNB2.out
  rcases first_cases (pcBad N.pcs) N.pcs.length with ⟨_, h2⟩ | ⟨i, hi, _, hbad, hlt⟩
  case inr =>
    rw [firstI_some hi hbad hlt]
    have HX := hide (netOk_2 HSB.out hi hbad hlt)
    clear hbad hlt
    go_wp2_with fail
    exact bodyPost_ret (v := .agg #[.int .i64 2, .int .i64 i]) (by simp [results, Try.results40, go_sem, r0, r1]) rfl ⟨by rw [HX.out], by repeat (first | exact hb | refine Below.setCell ?_ (by simp) _)⟩
  rw [firstI_none h2]
  have H2 := hide h2
  clear h2
  go_wp2_with fail
  refine (wrongJoint_any a a' _ cap cap' N.jts _ hn hl HM.out (HJ.out.later hb)).mono ?_
  rintro e w3 ⟨rfl, hb1⟩
  have HNB3 := hide (HNB2.out.later hb1)
  clear hb1 HNB2 n0 n1 r0 r1 f0 f1 hb
  obtain ⟨n0, n1, r0, r1, f0, f1, hb⟩ := HNB3.out
  rcases first_cases (jtBad3 N.pcs.length N.jts) N.jts.length with ⟨_, h3⟩ | ⟨i, hi, _, hbad, hlt⟩
  case inr =>
    rw [firstI_some hi hbad hlt]
    have HX := hide (netOk_3 HSB.out H2.out hi hbad hlt)
    clear hbad hlt
    go_wp2_with fail
    exact bodyPost_ret (v := .agg #[.int .i64 3, .int .i64 i]) (by simp [results, Try.results40, go_sem, r0, r1]) rfl ⟨by rw [HX.out], by repeat (first | exact hb | refine Below.setCell ?_ (by simp) _)⟩
  rw [firstI_none h3]
  have H3 := hide h3
  clear h3
  go_wp2_with fail
  refine (wrongJointName_any a' cap' N.pcs.length N.jts _ hl HM.out H3.out (HJ.out.later hb)).mono ?_
  rintro e w4 ⟨rfl, hb1⟩
  have HNB4 := hide (HNB3.out.later hb1)
  clear hb1 HNB3 n0 n1 r0 r1 f0 f1 hb
  obtain ⟨n0, n1, r0, r1, f0, f1, hb⟩ := HNB4.out
  rcases first_cases (jtBad4 N.jts) N.jts.length with ⟨_, h4⟩ | ⟨i, hi, _, hbad, hlt⟩
  case inr =>
    rw [firstI_some hi hbad hlt]
    have HX := hide (netOk_4 HSB.out H2.out H3.out hi hbad hlt)
    clear hbad hlt
    go_wp2_with fail
    exact bodyPost_ret (v := .agg #[.int .i64 4, .int .i64 i]) (by simp [results, Try.results40, go_sem, r0, r1]) rfl ⟨by rw [HX.out], by repeat (first | exact hb | refine Below.setCell ?_ (by simp) _)⟩
  rw [firstI_none h4]
  have H4 := hide h4
  clear h4
  go_wp2_with fail
  refine (wrongEnds_any a a' _ cap cap' N.jts _ hn hl HM.out H3.out (HJ.out.later hb)).mono ?_
  rintro e w5 ⟨rfl, hb1⟩
  have HNB5 := hide (HNB4.out.later hb1)
  clear hb1 HNB4 n0 n1 r0 r1 f0 f1 hb
  obtain ⟨n0, n1, r0, r1, f0, f1, hb⟩ := HNB5.out
  rcases first_cases (pcBad5 N.jts) N.pcs.length with ⟨_, h5⟩ | ⟨i, hi, _, hbad, hlt⟩
  case inr =>
    rw [firstI_some hi hbad hlt]
    have HX := hide (netOk_5 HSB.out H2.out H3.out H4.out hi hbad hlt)
    clear hbad hlt
    go_wp2_with fail
    exact bodyPost_ret (v := .agg #[.int .i64 5, .int .i64 i]) (by simp [results, Try.results40, go_sem, r0, r1]) rfl ⟨by rw [HX.out], by repeat (first | exact hb | refine Below.setCell ?_ (by simp) _)⟩
  rw [firstI_none h5]
  have H5 := hide h5
  clear h5
  go_wp2_with fail
  exact bodyPost_ret (v := .agg #[.int .i64 0, .int .i64 0]) (by simp [results, Try.results40, go_sem, r0, r1]) rfl ⟨by rw [netOk_0 HSB.out H2.out H3.out H4.out H5.out], by repeat (first | exact hb | refine Below.setCell ?_ (by simp) _)⟩
end Go.Proofs.Yteapmddadieohaa

/- Where seatsOf has an end. Own work. -/
namespace Go.Proofs.Yteapmddadieohaa
open Go.RowKit
set_option maxHeartbeats 1000000

theorem seatEnds_some {js : List Jt} {k : Nat} (hk : k < js.length) {g : Int × Int → Option (Int × Int × Int)} (hg : ∀ e t, g e = some t → ∃ j i : Nat, t.1 = j ∧ t.2.1 = i ∧ At js e j i) (m : Nat) (hm : m ≤ js[k].ends.length) :
    ∀ e t, seatEnds g k js[k].ends m e = some t → ∃ j i : Nat, t.1 = j ∧ t.2.1 = i ∧ At js e j i := by
  induction m with
  | zero => exact hg
  | succ m ih =>
    intro e t h
    rw [seatEnds_succ (by omega)] at h
    unfold seatAdd at h
    by_cases he : e = js[k].ends[m]
    · rw [if_pos he] at h
      have := Option.some.inj h
      subst this
      exact ⟨k, m, rfl, rfl, hk, by omega, he.symm⟩
    · rw [if_neg he] at h
      exact ih (by omega) e t h

theorem seatTo_some {js : List Jt} (k : Nat) (hk : k ≤ js.length) : ∀ e t, seatTo js k e = some t → ∃ j i : Nat, t.1 = j ∧ t.2.1 = i ∧ At js e j i := by
  induction k with
  | zero => intro e t h; simp [seatTo] at h
  | succ k ih =>
    intro e t h
    rw [seatTo_succ (by omega)] at h
    exact seatEnds_some (by omega) (ih (by omega)) _ (Nat.le_refl _) e t h

/-- What seatOf answers. -/
def SeatIs (N : Nt) (e : Int × Int) (t : Int × Int × Int) (ok : Bool) : Prop :=
  (ok = true → netOk N = (0, 0) ∧ ∃ j i : Nat, t.1 = j ∧ t.2.1 = i ∧ At N.jts e j i) ∧ (ok = false → ¬ (netOk N = (0, 0) ∧ endOk N.pcs.length e = true))

theorem seatIs_right {N : Nt} (h : netOk N = (0, 0)) (e : Int × Int) : SeatIs N e ((seatTo N.jts N.jts.length e).getD (0, 0, 0)) (seatTo N.jts N.jts.length e).isSome := by
  constructor
  · intro hs
    obtain ⟨t, ht⟩ := Option.isSome_iff_exists.1 hs
    rw [ht]
    exact ⟨h, seatTo_some _ (Nat.le_refl _) e t ht⟩
  · intro hs hh
    have h1 := uses_right hh.1 hh.2
    have h2 := times_all N.jts e
    have h3 : seatTo N.jts N.jts.length e = none := by simpa using hs
    unfold times at h2
    rw [h3, h1] at h2
    simp at h2

theorem seatIs_wrong {N : Nt} (h : ¬ netOk N = (0, 0)) (e : Int × Int) (t : Int × Int × Int) : SeatIs N e t false :=
  ⟨fun h => by simp at h, fun _ hh => h hh.1⟩
end Go.Proofs.Yteapmddadieohaa

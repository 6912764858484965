/- Where seatsOf has an end. Own work. -/
import Derived.Test.YtplnppdlabpodaaImH
import Derived.Test.YtplnppdlabpodaaPl3
namespace Go.Proofs.Ytplnppdlabpodaa
open Go.RowKit
set_option maxHeartbeats 1000000

theorem seatEnds_some {js : List Jt} {k : Nat} (hk : k < js.length) {g : Int × Int → Option (Int × Int × Int)} (hg : ∀ e t, g e = some t → ∃ j i : Nat, t.1 = j ∧ t.2.1 = i ∧ At js e j i) (m : Nat) (hm : m ≤ js[k].ends.length) :
    ∀ e t, seatEnds g k js[k].ends m e = some t → ∃ j i : Nat, t.1 = j ∧ t.2.1 = i ∧ At js e j i := by
  induction m with
  | zero => exact hg
  | succ m ih =>
    intro e t h
    rw [seatEnds_succ (by omega)] at h
    unfold seatAdd at h
    by_cases he : e = js[k].ends[m]
    · rw [if_pos he] at h
      have := Option.some.inj h
      subst this
      exact ⟨k, m, rfl, rfl, hk, by omega, he.symm⟩
    · rw [if_neg he] at h
      exact ih (by omega) e t h

theorem seatTo_some {js : List Jt} (k : Nat) (hk : k ≤ js.length) : ∀ e t, seatTo js k e = some t → ∃ j i : Nat, t.1 = j ∧ t.2.1 = i ∧ At js e j i := by
  induction k with
  | zero => intro e t h; simp [seatTo] at h
  | succ k ih =>
    intro e t h
    rw [seatTo_succ (by omega)] at h
    exact seatEnds_some (by omega) (ih (by omega)) _ (Nat.le_refl _) e t h

/-- What seatOf answers. -/
def SeatIs (N : Nt) (e : Int × Int) (t : Int × Int × Int) (ok : Bool) : Prop :=
  (ok = true → netOk N = (0, 0) ∧ ∃ j i : Nat, t.1 = j ∧ t.2.1 = i ∧ At N.jts e j i) ∧ (ok = false → ¬ (netOk N = (0, 0) ∧ endOk N.pcs.length e = true))

theorem seatIs_right {N : Nt} (h : netOk N = (0, 0)) (e : Int × Int) : SeatIs N e ((seatTo N.jts N.jts.length e).getD (0, 0, 0)) (seatTo N.jts N.jts.length e).isSome := by
  constructor
  · intro hs
    obtain ⟨t, ht⟩ := Option.isSome_iff_exists.1 hs
    rw [ht]
    exact ⟨h, seatTo_some _ (Nat.le_refl _) e t ht⟩
  · intro hs hh
    have h1 := uses_right hh.1 hh.2
    have h2 := times_all N.jts e
    have h3 : seatTo N.jts N.jts.length e = none := by simpa using hs
    unfold times at h2
    rw [h3, h1] at h2
    simp at h2

theorem seatIs_wrong {N : Nt} (h : ¬ netOk N = (0, 0)) (e : Int × Int) (t : Int × Int × Int) : SeatIs N e t false :=
  ⟨fun h => by simp at h, fun _ hh => h hh.1⟩
end Go.Proofs.Ytplnppdlabpodaa

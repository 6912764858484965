import Derived.Test.YtncanhbmbjoamacGreatTo
import Derived.Test.YtncanhbmbjoamacGreatDrS
namespace Go.Proofs.YtncanhbmbjoamacGreat
open Go.RowKit
set_option maxHeartbeats 2000000

theorem toSpot_any (q at' way : Int) (w : World) :
    Calls Tryz.prog 9 #[.agg #[.int .i64 q, .int .i64 at', .int .i64 way]] w fun e w' =>
    e = .returned (.agg #[.int .i64 q, .int .i64 at', .int .i64 way]) ∧ Below w.heap.size w w' := by
  go_enter Tryz.func9, Tryz.ntmps9
  go_wp2
  exact bodyPost_ret (v := .agg #[.int .i64 q, .int .i64 at', .int .i64 way]) (by simp [results, Tryz.results9, go_sem]) rfl ⟨rfl, (((Below.refl _ _).alloc (Nat.le_refl _) _).alloc (by simp) _).alloc (by simp; omega) _⟩

end Go.Proofs.YtncanhbmbjoamacGreat

/- spec.Drive, eqDriven. Own work. -/
namespace Go.Proofs.YtncanhbmbjoamacGreat
open Go.RowKit
set_option maxHeartbeats 2000000

/-- What Drive answers. -/
def DriveA (N : Nt) (xs : List Int) (q at' way far : Int) (t : DRes) : Prop :=
  if goodP N xs q at' way far = true then ∃ r : DRes, DriveR N xs far 0 q at' way 0 [] r ∧ t = ⟨r.code, r.far, r.joint, r.q, r.at', r.way, []⟩ else t = ⟨4, 0, 0, 0, 0, 0, []⟩

theorem good_all {N : Nt} {xs : List Int} {q at' way far : Int} (h : goodP N xs q at' way far = true) : netOk N = (0, 0) ∧ liesP N.jts xs = true ∧ spotP N q at' way = true ∧ 0 ≤ far ∧ far ≤ 1000000 := by
  simp only [goodP, inR, Bool.and_eq_true, decide_eq_true_eq] at h
  exact ⟨h.1.1.1, h.1.1.2, h.1.2, h.2.1, h.2.2⟩

theorem driveA_one {N : Nt} {xs : List Int} {q at' way far : Int} {t t' : DRes} (h : DriveA N xs q at' way far t) (h' : DriveA N xs q at' way far t') : t = t' := by
  unfold DriveA at h h'
  split at h
  · rename_i hg
    rw [if_pos hg] at h'
    obtain ⟨r, hr, rfl⟩ := h
    obtain ⟨r', hr', rfl⟩ := h'
    rw [drive_one (good_all hg).1 hr hr']
  · rename_i hg
    rw [if_neg hg] at h'
    rw [h, h']

theorem below6 {w wq : World} (hb : Below w.heap.size w wq) (x0 x1 x2 x3 x4 x5 : Value) :
    Below w.heap.size w ((((((wq.setCell ⟨w.heap.size + 1 + 1, 0, none⟩ x0).setCell ⟨w.heap.size + 1 + 1, 1, none⟩ x1).setCell ⟨w.heap.size + 1 + 1, 2, none⟩ x2).setCell ⟨w.heap.size + 1 + 1, 3, none⟩ x3).setCell ⟨w.heap.size + 1 + 1, 4, none⟩ x4).setCell ⟨w.heap.size + 1 + 1, 5, none⟩ x5) := by
  have hle : w.heap.size ≤ w.heap.size + 1 + 1 := by omega
  exact (((((hb.setCell hle _).setCell hle _).setCell hle _).setCell hle _).setCell hle _).setCell hle _

end Go.Proofs.YtncanhbmbjoamacGreat

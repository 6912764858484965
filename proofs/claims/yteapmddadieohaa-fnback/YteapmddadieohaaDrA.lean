/- spec.Ahead, spec.Behind. Own work. -/
import Derived.Test.YteapmddadieohaaDrS
namespace Go.Proofs.Yteapmddadieohaa
open Go.RowKit
set_option maxHeartbeats 2000000

/-- What Ahead answers. -/
def AheadR (N : Nt) (xs : List Int) (q at' way far : Int) (ps : List (Int × Int × Int)) : Prop :=
  if goodP N xs q at' way far = true then ∃ r : DRes, DriveR N xs far 0 q at' way 0 [] r ∧ r.ps = ps else ps = []
/-- What Behind answers. -/
def BehindR (N : Nt) (xs : List Int) (q at' way far : Int) (ps : List (Int × Int × Int)) : Prop :=
  if goodP N xs q at' way far = true then ∃ r : DRes, DriveR N xs far 0 q at' (-way) 0 [] r ∧ r.ps = ps else ps = []

theorem good_parts {N : Nt} {xs : List Int} {q at' way far : Int} (h : goodP N xs q at' way far = true) : netOk N = (0, 0) ∧ liesP N.jts xs = true ∧ spotP N q at' way = true ∧ 0 ≤ far ∧ far ≤ 1000000 := by
  simp only [goodP, inR, Bool.and_eq_true, decide_eq_true_eq] at h
  exact ⟨h.1.1.1, h.1.1.2, h.1.2, h.2.1, h.2.2⟩

theorem ahead_one {N : Nt} {xs : List Int} {q at' way far : Int} {ps ps' : List (Int × Int × Int)} (h : AheadR N xs q at' way far ps) (h' : AheadR N xs q at' way far ps') : ps = ps' := by
  unfold AheadR at h h'
  split at h
  · rename_i hg
    rw [if_pos hg] at h'
    obtain ⟨r, hr, rfl⟩ := h
    obtain ⟨r', hr', rfl⟩ := h'
    rw [drive_one (good_parts hg).1 hr hr']
  · rename_i hg
    rw [if_neg hg] at h'
    rw [h, h']

theorem behind_one {N : Nt} {xs : List Int} {q at' way far : Int} {ps ps' : List (Int × Int × Int)} (h : BehindR N xs q at' way far ps) (h' : BehindR N xs q at' way far ps') : ps = ps' := by
  unfold BehindR at h h'
  split at h
  · rename_i hg
    rw [if_pos hg] at h'
    obtain ⟨r, hr, rfl⟩ := h
    obtain ⟨r', hr', rfl⟩ := h'
    rw [drive_one (good_parts hg).1 hr hr']
  · rename_i hg
    rw [if_neg hg] at h'
    rw [h, h']

theorem spot_back {N : Nt} {q at' way : Int} (h : spotP N q at' way = true) : spotP N q at' (-way) = true := by
  simp only [spotP, Bool.and_eq_true, Bool.or_eq_true, beq_iff_eq] at h ⊢
  refine ⟨⟨h.1.1, ?_⟩, h.2⟩
  rcases h.1.2 with h | h
  · right; omega
  · left; omega

end Go.Proofs.Yteapmddadieohaa

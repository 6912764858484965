/- spec.Ahead, spec.Behind. Own work. -/
import Derived.Test.YtldafgbhjpfboaaGreatDrS
import Derived.Test.YtldafgbhjpfboaaGreatMxAO
import Derived.Test.YtldafgbhjpfboaaGreatMxAN
import Derived.Test.YtldafgbhjpfboaaGreatMxAQ
import Derived.Shelf.SlicesE.Clone
import Derived.Test.YtldafgbhjpfboaaGreatProg
namespace Go.Proofs.YtldafgbhjpfboaaGreat
open Go.RowKit
set_option maxHeartbeats 2000000

/-- What Ahead answers. -/
def AheadR (N : Nt) (xs : List Int) (q at' way far : Int) (ps : List (Int × Int × Int)) : Prop :=
  if goodP N xs q at' way far = true then ∃ r : DRes, DriveR N xs far 0 q at' way 0 [] r ∧ r.ps = ps else ps = []
/-- What Behind answers. -/
def BehindR (N : Nt) (xs : List Int) (q at' way far : Int) (ps : List (Int × Int × Int)) : Prop :=
  if goodP N xs q at' way far = true then ∃ r : DRes, DriveR N xs far 0 q at' (-way) 0 [] r ∧ r.ps = ps else ps = []

theorem good_parts {N : Nt} {xs : List Int} {q at' way far : Int} (h : goodP N xs q at' way far = true) : netOk N = (0, 0) ∧ liesP N.jts xs = true ∧ spotP N q at' way = true ∧ 0 ≤ far ∧ far ≤ 1000000 := by
  simp only [goodP, inR, Bool.and_eq_true, decide_eq_true_eq] at h
  exact ⟨h.1.1.1, h.1.1.2, h.1.2, h.2.1, h.2.2⟩

theorem ahead_one {N : Nt} {xs : List Int} {q at' way far : Int} {ps ps' : List (Int × Int × Int)} (h : AheadR N xs q at' way far ps) (h' : AheadR N xs q at' way far ps') : ps = ps' := by
  unfold AheadR at h h'
  split at h
  · rename_i hg
    rw [if_pos hg] at h'
    obtain ⟨r, hr, rfl⟩ := h
    obtain ⟨r', hr', rfl⟩ := h'
    rw [drive_one (good_parts hg).1 hr hr']
  · rename_i hg
    rw [if_neg hg] at h'
    rw [h, h']

theorem behind_one {N : Nt} {xs : List Int} {q at' way far : Int} {ps ps' : List (Int × Int × Int)} (h : BehindR N xs q at' way far ps) (h' : BehindR N xs q at' way far ps') : ps = ps' := by
  unfold BehindR at h h'
  split at h
  · rename_i hg
    rw [if_pos hg] at h'
    obtain ⟨r, hr, rfl⟩ := h
    obtain ⟨r', hr', rfl⟩ := h'
    rw [drive_one (good_parts hg).1 hr hr']
  · rename_i hg
    rw [if_neg hg] at h'
    rw [h, h']

theorem spot_back {N : Nt} {q at' way : Int} (h : spotP N q at' way = true) : spotP N q at' (-way) = true := by
  simp only [spotP, Bool.and_eq_true, Bool.or_eq_true, beq_iff_eq] at h ⊢
  refine ⟨⟨h.1.1, ?_⟩, h.2⟩
  rcases h.1.2 with h | h
  · right; omega
  · left; omega

end Go.Proofs.YtldafgbhjpfboaaGreat

/- Marks of lists of numbers and of parts. Own work. -/
namespace Go.Proofs.YtldafgbhjpfboaaGreat
open Go.RowKit
set_option maxHeartbeats 2000000

/-- The marks of parts. -/
def MarkedP (w : World) (b n : Nat) (k : Int) : Prop := ∀ i, i < n → w.cell? ⟨b, i * 3, none⟩ = some (.int .i64 (k + 3 * i)) ∧ w.cell? ⟨b, i * 3 + 1, none⟩ = some (.int .i64 (k + 3 * i + 1)) ∧ w.cell? ⟨b, i * 3 + 2, none⟩ = some (.int .i64 (k + 3 * i + 2))

/-- What is owned as a row of parts is a list of parts in memory. -/
theorem partCells_at (ps : List (Int × Int × Int)) : ∀ k (hk : k < ps.length), (partCells ps)[k * 3]? = some (.int .i64 ps[k].1) ∧ (partCells ps)[k * 3 + 1]? = some (.int .i64 ps[k].2.1) ∧ (partCells ps)[k * 3 + 2]? = some (.int .i64 ps[k].2.2) := by
  induction ps with
  | nil => intro k hk; simp at hk
  | cons p ps ih =>
    intro k hk
    have e : partCells (p :: ps) = .int .i64 p.1 :: .int .i64 p.2.1 :: .int .i64 p.2.2 :: partCells ps := rfl
    rw [e]
    cases k with
    | zero => exact ⟨rfl, rfl, rfl⟩
    | succ k =>
      have := ih k (by simpa using hk)
      have e3 : (k + 1) * 3 = k * 3 + 1 + 1 + 1 := by omega
      rw [e3]
      simpa using this

theorem partCells_length (ps : List (Int × Int × Int)) : (partCells ps).length = ps.length * 3 := by
  induction ps with
  | nil => rfl
  | cons p ps ih =>
    have e : partCells (p :: ps) = .int .i64 p.1 :: .int .i64 p.2.1 :: .int .i64 p.2.2 :: partCells ps := rfl
    rw [e]
    simp only [List.length_cons, ih]
    omega

theorem parts_of_owns {w : World} {base : Nat} {e : TypeId} {v : Value} {ps : List (Int × Int × Int)} (h : w.ownsRow base e 3 v ps.length (partCells ps)) :
    (v = .slice none 0 0 ∧ ps = []) ∨ ∃ b cap, v = .slice (some ⟨b, 0, none⟩) ps.length cap ∧ base ≤ b ∧ ps.length ≤ cap ∧ PartsAt w (some ⟨b, 0, none⟩) ps ∧ Row w b e (cap * 3) := by
  rcases h.2 with ⟨hv, h0⟩ | ⟨g, cap, cur, hv, hb, hg, hn, _, hsz, htk⟩
  · exact .inl ⟨hv, List.eq_nil_of_length_eq_zero h0⟩
  · refine .inr ⟨g, cap, hv, hb, hn, ?_, ?_⟩
    · have hcell : ∀ j, j < ps.length * 3 → w.cell? ⟨g, j, none⟩ = (partCells ps)[j]? := by
        intro j hj
        rw [hv] at h
        exact h.cellAt j hj
      intro k hk
      obtain ⟨p0, p1, p2⟩ := partCells_at ps k hk
      refine ⟨g, 0, rfl, ?_, ?_, ?_⟩
      · rw [Nat.zero_add, hcell _ (by omega), p0]
      · rw [Nat.zero_add, hcell _ (by omega), p1]
      · rw [Nat.zero_add, hcell _ (by omega), p2]
    · exact ⟨fun i => cur[i]!, cur, hg, hsz, fun i hi => by simp [hsz, hi]⟩

end Go.Proofs.YtldafgbhjpfboaaGreat

/- The library's contract of slices.Clone, laid at this dump in plain words, at steps. -/
namespace Go.Proofs
open Go.Shelf
def Tryz.cloneS_ren : Go.Shelf.Ren := ⟨fun | 41 => 85 | n => n, fun | 22 => 31 | 23 => 37 | 4 => 4 | n => n, fun | n => n⟩
theorem Tryz.cloneS : Go.Proofs.SlLaysE0.n41 Tryz.prog Tryz.cloneS_ren := {
  mixed := by kernel_rfl
  f41 := ⟨Tryz.f85.name, by decide, Tryz.func85.trans (congrArg some (by kernel_rfl))⟩
  t4 := Tryz.underlying4
  a4 := Tryz.isAgg4
  z4 := Tryz.sizeOf4
  v4 := Tryz.zeroValue4
  t22 := Tryz.underlying31
  a22 := Tryz.isAgg31
  z22 := Tryz.sizeOf31
  v22 := Tryz.zeroValue31 }
end Go.Proofs

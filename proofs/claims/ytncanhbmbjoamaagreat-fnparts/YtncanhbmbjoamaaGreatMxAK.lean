/- The drawn laws' own helpers: wInts, wNet; numbers that fit. Own work. -/
import Derived.Test.YtncanhbmbjoamaaGreatDwI
import Derived.Test.YtncanhbmbjoamaaGreatMxAJ
import Derived.Test.YtncanhbmbjoamaaGreatDrS
namespace Go.Proofs.YtncanhbmbjoamaaGreat
open Go.RowKit
set_option maxHeartbeats 2000000

theorem wf_int {x : Int} (h0 : -4611686018427387904 ≤ x) (h1 : x ≤ 4611686018427387904) : (Lit.int .i64 x).wf = true := by
  simp only [Lit.wf, IntKind.min, IntKind.max, IntKind.bits, IntKind.signed, Bool.and_eq_true, decide_eq_true_eq]
  simp
  omega
theorem ints_of_owns {w : World} {base : Nat} {v : Value} {xs : List Int} (h : w.ownsRow base 3 1 v xs.length (xs.map (Value.int .i64))) : ∃ z zc, v = .slice z xs.length zc ∧ IntsAt w z xs := by
  rcases h.2 with ⟨rfl, h0⟩ | ⟨g, cap, cur, rfl, _⟩
  · exact ⟨none, 0, by rw [h0], fun k hk => by omega⟩
  · refine ⟨_, cap, rfl, fun k hk => ⟨g, 0, rfl, ?_⟩⟩
    rw [Nat.zero_add, h.cellAt _ (by omega)]
    simp [hk]
theorem liesL_bd (N : Nt) (code : List Int) : ∀ x ∈ liesL N code, 0 ≤ x ∧ x ≤ 2 := by
  unfold liesL
  generalize N.jts.length = n
  induction n with
  | zero => intro x hx; simp [liesD] at hx
  | succ n ih =>
    intro x hx
    rw [liesD] at hx
    have hp := pickV_bd (code := code) (n := 2) (by omega) (liesD code N.jts n).2
    split at hx
    · simp only [List.mem_append, List.mem_singleton] at hx
      rcases hx with hx | hx
      · exact ih x hx
      · omega
    · simp only [List.mem_append, List.mem_singleton] at hx
      rcases hx with hx | hx
      · exact ih x hx
      · omega
theorem liesL_len (N : Nt) (code : List Int) : (liesL N code).length = N.jts.length := liesD_len code N.jts N.jts.length

end Go.Proofs.YtncanhbmbjoamaaGreat

/- spec.Drive, eqDriven. Own work. -/
namespace Go.Proofs.YtncanhbmbjoamaaGreat
open Go.RowKit
set_option maxHeartbeats 2000000

/-- What Drive answers. -/
def DriveA (N : Nt) (xs : List Int) (q at' way far : Int) (t : DRes) : Prop :=
  if goodP N xs q at' way far = true then ∃ r : DRes, DriveR N xs far 0 q at' way 0 [] r ∧ t = ⟨r.code, r.far, r.joint, r.q, r.at', r.way, []⟩ else t = ⟨4, 0, 0, 0, 0, 0, []⟩

theorem good_all {N : Nt} {xs : List Int} {q at' way far : Int} (h : goodP N xs q at' way far = true) : netOk N = (0, 0) ∧ liesP N.jts xs = true ∧ spotP N q at' way = true ∧ 0 ≤ far ∧ far ≤ 1000000 := by
  simp only [goodP, inR, Bool.and_eq_true, decide_eq_true_eq] at h
  exact ⟨h.1.1.1, h.1.1.2, h.1.2, h.2.1, h.2.2⟩

theorem driveA_one {N : Nt} {xs : List Int} {q at' way far : Int} {t t' : DRes} (h : DriveA N xs q at' way far t) (h' : DriveA N xs q at' way far t') : t = t' := by
  unfold DriveA at h h'
  split at h
  · rename_i hg
    rw [if_pos hg] at h'
    obtain ⟨r, hr, rfl⟩ := h
    obtain ⟨r', hr', rfl⟩ := h'
    rw [drive_one (good_all hg).1 hr hr']
  · rename_i hg
    rw [if_neg hg] at h'
    rw [h, h']

theorem below6 {w wq : World} (hb : Below w.heap.size w wq) (x0 x1 x2 x3 x4 x5 : Value) :
    Below w.heap.size w ((((((wq.setCell ⟨w.heap.size + 1 + 1, 0, none⟩ x0).setCell ⟨w.heap.size + 1 + 1, 1, none⟩ x1).setCell ⟨w.heap.size + 1 + 1, 2, none⟩ x2).setCell ⟨w.heap.size + 1 + 1, 3, none⟩ x3).setCell ⟨w.heap.size + 1 + 1, 4, none⟩ x4).setCell ⟨w.heap.size + 1 + 1, 5, none⟩ x5) := by
  have hle : w.heap.size ≤ w.heap.size + 1 + 1 := by omega
  exact (((((hb.setCell hle _).setCell hle _).setCell hle _).setCell hle _).setCell hle _).setCell hle _

end Go.Proofs.YtncanhbmbjoamaaGreat

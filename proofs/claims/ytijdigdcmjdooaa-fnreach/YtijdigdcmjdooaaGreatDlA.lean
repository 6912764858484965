/- The drawn laws' own helpers: wInts, wNet; numbers that fit. Own work. -/
import Derived.Test.YtijdigdcmjdooaaGreatMxBM
import Derived.Test.YtijdigdcmjdooaaGreatMxAB
namespace Go.Proofs.YtijdigdcmjdooaaGreat
open Go.RowKit
set_option maxHeartbeats 2000000

theorem wf_int {x : Int} (h0 : -4611686018427387904 ≤ x) (h1 : x ≤ 4611686018427387904) : (Lit.int .i64 x).wf = true := by
  simp only [Lit.wf, IntKind.min, IntKind.max, IntKind.bits, IntKind.signed, Bool.and_eq_true, decide_eq_true_eq]
  simp
  omega
theorem ints_of_owns {w : World} {base : Nat} {v : Value} {xs : List Int} (h : w.ownsRow base 3 1 v xs.length (xs.map (Value.int .i64))) : ∃ z zc, v = .slice z xs.length zc ∧ IntsAt w z xs := by
  rcases h.2 with ⟨rfl, h0⟩ | ⟨g, cap, cur, rfl, _⟩
  · exact ⟨none, 0, by rw [h0], fun k hk => by omega⟩
  · refine ⟨_, cap, rfl, fun k hk => ⟨g, 0, rfl, ?_⟩⟩
    rw [Nat.zero_add, h.cellAt _ (by omega)]
    simp [hk]
theorem liesL_bd (N : Nt) (code : List Int) : ∀ x ∈ liesL N code, 0 ≤ x ∧ x ≤ 2 := by
  unfold liesL
  generalize N.jts.length = n
  induction n with
  | zero => intro x hx; simp [liesD] at hx
  | succ n ih =>
    intro x hx
    rw [liesD] at hx
    have hp := pickV_bd (code := code) (n := 2) (by omega) (liesD code N.jts n).2
    split at hx
    · simp only [List.mem_append, List.mem_singleton] at hx
      rcases hx with hx | hx
      · exact ih x hx
      · omega
    · simp only [List.mem_append, List.mem_singleton] at hx
      rcases hx with hx | hx
      · exact ih x hx
      · omega
theorem liesL_len (N : Nt) (code : List Int) : (liesL N code).length = N.jts.length := liesD_len code N.jts N.jts.length

end Go.Proofs.YtijdigdcmjdooaaGreat

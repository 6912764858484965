import Derived.Test.YtplnppdlabpodaaNm
import Derived.Test.YtplnppdlabpodaaTo
import Derived.Test.YtplnppdlabpodaaJaA
import Derived.Deep.QuietTactic
import Derived.BigQuiet
import Derived.Deep.RegionWith
namespace Go.Proofs.Ytplnppdlabpodaa
open Go.RowKit
set_option maxHeartbeats 1000000

def lenAt (N : Nt) (q : Int) : Int := match N.pcs[q.toNat]? with
  | some p => p.len
  | none => 0
def spotP (N : Nt) (q at' way : Int) : Bool := inR q 0 ((N.pcs.length : Int) - 1) && (way == 1 || way == -1) && inR at' 0 (lenAt N q)

theorem l1in_b {x a b : Int} {r : Bool} (h : inR x a b = r) (w : World) : Calls Try.prog 66 #[.int .i64 x, .int .i64 a, .int .i64 b] w fun e w' =>
    e = .returned (.bool r) ∧ w' = w := (l1in_any x a b w).mono fun _ _ h' => ⟨by rw [h'.1, h], h'.2.symm⟩

theorem l3spot_any (a a' : Option Addr) (N : Nt) (cap cap' : Nat) (q at' way : Int) (w : World) (hn : N.pcs.length ≤ 1048576) (hp : PcsAt w a N.pcs) :
    Calls Try.prog 87 #[.agg #[.slice a N.pcs.length cap, .slice a' N.jts.length cap'], .agg #[.int .i64 q, .int .i64 at', .int .i64 way]] w fun e w' =>
    e = .returned (.bool (spotP N q at' way)) ∧ Below w.heap.size w w' := by
  have hbW : Below w.heap.size w ((w.alloc (.cells #[.slice a N.pcs.length cap, .slice a' N.jts.length cap'] 33)).alloc (.cells #[.int .i64 q, .int .i64 at', .int .i64 way] 52)) := ((Below.refl _ _).alloc (Nat.le_refl _) _).alloc (by simp) _
  cases h1 : inR q 0 ((N.pcs.length : Int) - 1)
  · have H1 := hide h1
    clear h1 hp
    go_enter Try.func87, Try.ntmps87
    go_wp2_with fail
    go_quiet ((go_at_call 66; exact Calls.quiet_of_same (l1in_b H1.out _)))
    go_wp2_with fail
    go_ret
    exact ⟨ret_b (by simp [spotP, H1.out]), below_drewN hbW _⟩
  · have H1 := hide h1
    have hq : 0 ≤ q ∧ q < (N.pcs.length : Int) := by simp [inR] at h1; omega
    clear h1
    obtain ⟨k, rfl⟩ := Int.eq_ofNat_of_zero_le hq.1
    have hk : k < N.pcs.length := by omega
    obtain ⟨b, off, rfl, c0, c1, c2, c3⟩ := hp k hk
    have hblt := cell_lt c0
    have hlen : lenAt N (k : Int) = N.pcs[k].len := by simp [lenAt, hk]
    have HLEN := hide hlen
    clear hp hlen c0 c2 c3
    by_cases hw1 : way = 1
    · subst hw1
      cases h2 : inR at' 0 N.pcs[k].len
      all_goals
        have H2 := hide h2
        clear h2
        go_enter Try.func87, Try.ntmps87
        go_wp2_with fail
        go_quiet ((first | (go_at_call_of 66 (Value.int IntKind.i64 at'); exact Calls.quiet_of_same (l1in_b H2.out _)) | (go_at_call 66; exact Calls.quiet_of_same (l1in_b H1.out _))))
        go_wp2_with fail
        go_ret
        exact ⟨ret_b (by simp [spotP, H1.out, HLEN.out, H2.out]), below_drewN hbW _⟩
    · by_cases hw2 : way = -1
      · subst hw2
        cases h2 : inR at' 0 N.pcs[k].len
        all_goals
          have H2 := hide h2
          clear h2
          go_enter Try.func87, Try.ntmps87
          go_wp2_with fail
          go_quiet ((first | (go_at_call_of 66 (Value.int IntKind.i64 at'); exact Calls.quiet_of_same (l1in_b H2.out _)) | (go_at_call 66; exact Calls.quiet_of_same (l1in_b H1.out _))))
          go_wp2_with fail
          go_ret
          exact ⟨ret_b (by simp [spotP, H1.out, HLEN.out, H2.out]), below_drewN hbW _⟩
      · have q1 : (way == 1) = false := by rw [beq_eq_false_iff_ne]; exact hw1
        have q2 : (way == -1) = false := by rw [beq_eq_false_iff_ne]; exact hw2
        clear hw1 hw2
        have HQ1 := hide q1
        have HQ2 := hide q2
        go_enter Try.func87, Try.ntmps87
        go_wp2_with fail
        go_quiet ((go_at_call 66; exact Calls.quiet_of_same (l1in_b H1.out _)))
        go_wp2_with fail
        go_ret
        exact ⟨ret_b (by simp [spotP, H1.out, HQ1.out, HQ2.out]), below_drewN hbW _⟩
end Go.Proofs.Ytplnppdlabpodaa

/- The laws' own helpers on lists of numbers. Own work. -/
import Derived.Test.YtplnppdlabpodaaStC
import Derived.Test.YtplnppdlabpodaaTo
namespace Go.Proofs.Ytplnppdlabpodaa
open Go.RowKit
set_option maxHeartbeats 2000000

theorem info_Int : (Try.prog.info? 3).map (fun i => (i.zero, i.size, i.bytes)) = some (some (.int .i64 0), 1, 8) := by kernel_rfl

theorem toIntS_any (a : Option Addr) (xs : List Int) (cap : Nat) (w : World) (hn : xs.length ≤ 1048576) (hp : IntsAt w a xs) :
    Calls Try.prog 36 #[.slice a xs.length cap] w fun e w' =>
    e = .returned (.slice (some ⟨w.heap.size, 0, none⟩) xs.length xs.length) ∧ Row w' w.heap.size 3 xs.length ∧ IntsAt w' (some ⟨w.heap.size, 0, none⟩) xs ∧ Below w.heap.size w w' := by
  have HP := hide hp
  clear hp
  have hmk := run_make_rows (P := Try.prog) 57 3 _ _ _ Try.underlying57 info_Int xs.length (by omega) (by omega)
  go_enter Try.func36, Try.ntmps36
  go_wp2
  go_loopw [4] (fun i wr => ∃ (k : Nat) (f : Nat → Value), k ≤ xs.length ∧ i = .int .i64 k ∧ wr.rowIs w.heap.size 3 xs.length f ∧ (∀ j (_ : j < k) (hj : j < xs.length), f j = .int .i64 xs[j]) ∧ Below w.heap.size w wr) (fun i _ => xs.length - (intOf i).toNat)
  case atStart =>
    obtain ⟨f, hf⟩ := rowIs_made' w #[.int .i64 0] xs.length 3
    refine ⟨0, f, Nat.zero_le _, rfl, ?_, by intro j hj; omega, (Below.refl _ _).alloc (Nat.le_refl _) _⟩
    simpa using hf
  case round =>
    obtain ⟨k, f, hk, rfl, hf, hfs, hb⟩ := hrel
    have HF := hide hf
    have HFS := hide hfs
    clear hf hfs hmk
    by_cases hlt : k < xs.length
    · obtain ⟨b, off, rfl, c0⟩ := (IntsAt.later HP.out hb) k hlt
      have d0 := HF.out.cell (i := k) hlt
      have z0 := HF.out.frozen k
      go_wp2_with fail
      refine ⟨⟨k + 1, _, by omega, by go_num, HF.out.set _ _, ?_, hb.setCell (by simp) _⟩, by simp [intOf]; omega⟩
      intro j hj hj'
      by_cases e : j = k
      · subst e; rw [if_pos rfl]
      · rw [if_neg e]; exact HFS.out j (by omega) hj'
    · go_wp2_with fail
      go_ret
      refine ⟨rfl, ⟨f, HF.out⟩, ?_, hb⟩
      intro j hj
      exact ⟨_, 0, rfl, by rw [Nat.zero_add, HF.out.cell hj, HFS.out j (by omega) hj]⟩

theorem eqIntS_same (a a' : Option Addr) (xs : List Int) (cap cap' : Nat) (w : World) (hn : xs.length ≤ 1048576) (hp : IntsAt w a xs) (hp' : IntsAt w a' xs) :
    Calls Try.prog 39 #[.slice a xs.length cap, .slice a' xs.length cap'] w fun e w' =>
    e = .returned (.bool true) ∧ Below w.heap.size w w' := by
  have HP := hide hp
  have HP' := hide hp'
  clear hp hp'
  go_enter Try.func39, Try.ntmps39
  go_wp2
  go_loopw [5] (fun i wr => ∃ (k : Nat), k ≤ xs.length ∧ i = .int .i64 k ∧ Below w.heap.size w wr) (fun i _ => xs.length - (intOf i).toNat)
  case atStart => exact ⟨0, Nat.zero_le _, rfl, Below.refl _ _⟩
  case round =>
    obtain ⟨k, hk, rfl, hb⟩ := hrel
    by_cases hlt : k < xs.length
    · obtain ⟨b, off, rfl, c0⟩ := (IntsAt.later HP.out hb) k hlt
      obtain ⟨b', off', rfl, c0'⟩ := (IntsAt.later HP'.out hb) k hlt
      have hi1 : (k : Int) < (xs.length : Int) := by omega
      go_wp2_with fail
      go_quiet (fail)
      go_wp2_with fail
      exact ⟨⟨k + 1, by omega, by go_num, below_drewN hb _⟩, by simp [intOf]; omega⟩
    · go_wp2_with fail
      go_ret
      exact ⟨rfl, hb⟩

end Go.Proofs.Ytplnppdlabpodaa

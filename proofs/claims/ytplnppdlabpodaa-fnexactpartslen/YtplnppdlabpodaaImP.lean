/- impl.PartsLen. Own work. -/
import Derived.Test.YtplnppdlabpodaaLwPt
import Derived.Test.YtplnppdlabpodaaNmI
namespace Go.Proofs.Ytplnppdlabpodaa
open Go.RowKit
set_option maxHeartbeats 2000000

theorem inRange_c {x a b : Int} {r : Bool} (h : inR x a b = r) (w : World) : Calls Try.prog 88 #[.int .i64 x, .int .i64 a, .int .i64 b] w fun e w' =>
    e = .returned (.bool r) ∧ w = w' := (inRange_any x a b w).mono fun _ _ h' => ⟨by rw [h'.1, h], h'.2⟩

theorem implPartOk_any (x y z : Int) (w : World) :
    Calls Try.prog 122 #[.agg #[.int .i64 x, .int .i64 y, .int .i64 z]] w fun e w' => e = .returned (.bool (partOk (x, y, z))) ∧ Below w.heap.size w w' := by
  have hbA := (Below.refl w.heap.size w).alloc (Nat.le_refl _) (.cells #[.int .i64 x, .int .i64 y, .int .i64 z] 119)
  have HPK := hide (show partOk (x, y, z) = (inR x 0 99 && inR y 0 10000000 && inR z y 10000000) from rfl)
  go_enter Try.func122, Try.ntmps122
  go_wp2_with fail
  cases h1 : inR x 0 99
  · have H1 := hide h1
    clear h1
    refine (inRange_c H1.out _).mono ?_
    rintro e w1 ⟨rfl, rfl⟩
    go_wp2_with fail
    go_ret
    exact ⟨ret_b (by rw [HPK.out, H1.out]; rfl), hbA⟩
  have H1 := hide h1
  clear h1
  refine (inRange_c H1.out _).mono ?_
  rintro e w1 ⟨rfl, rfl⟩
  go_wp2_with fail
  cases h2 : inR y 0 10000000
  · have H2 := hide h2
    clear h2
    refine (inRange_c H2.out _).mono ?_
    rintro e w1 ⟨rfl, rfl⟩
    go_wp2_with fail
    go_ret
    exact ⟨ret_b (by rw [HPK.out, H1.out, H2.out]; rfl), hbA⟩
  have H2 := hide h2
  clear h2
  refine (inRange_c H2.out _).mono ?_
  rintro e w1 ⟨rfl, rfl⟩
  go_wp2_with fail
  refine (inRange_any _ _ _ _).mono ?_
  rintro e w1 ⟨rfl, rfl⟩
  generalize hg : inR z y 10000000 = g
  have HG := hide hg
  clear hg
  go_wp2_with fail
  go_ret
  exact ⟨ret_b (by rw [HPK.out, H1.out, H2.out, HG.out]; rfl), hbA⟩

theorem implPartsOk_any (a : Option Addr) (ps : List Prt) (cap : Nat) (w : World) (hn : ps.length ≤ 1048576) (hp : PartsAt w a ps) :
    Calls Try.prog 95 #[.slice a ps.length cap] w fun e w' => e = .returned (.bool (partsOkP ps)) ∧ Below w.heap.size w w' := by
  have HP := hide hp
  clear hp
  generalize hRes : partsOkP ps = Res
  have HRES := hide hRes
  clear hRes
  by_cases hlen : (10000 : Int) < (ps.length : Int)
  · have HF := hide (show partsOkP ps = false by
      have : decide (ps.length ≤ 10000) = false := by rw [decide_eq_false_iff_not]; omega
      simp [partsOkP, this])
    go_enter Try.func95, Try.ntmps95
    go_wp2_with fail
    go_ret
    exact ⟨ret_b (by rw [← HRES.out, HF.out]), Below.refl _ _⟩
  have hld : decide ((10000 : Int) < (ps.length : Int)) = false := by rw [decide_eq_false_iff_not]; exact hlen
  have HL := hide (show decide (ps.length ≤ 10000) = true by rw [decide_eq_true_eq]; omega)
  clear hlen
  go_enter Try.func95, Try.ntmps95
  go_wp2_with fail
  go_loopw [4, 10] (fun _ i wr => ∃ (k : Nat), k ≤ ps.length ∧ i = .int .i64 k ∧ Hid (∀ u (hu : u < ps.length), u < k → partOk ps[u] = true) ∧ Below w.heap.size w wr) (fun _ i _ => ps.length - (intOf i).toNat)
  case atStart => exact ⟨0, Nat.zero_le _, rfl, fun u hu h => by omega, Below.refl _ _⟩
  case round =>
    obtain ⟨k, hk, rfl, HA, hb⟩ := hrel
    by_cases hlt : k < ps.length
    · obtain ⟨b, off, rfl, c0, c1, c2⟩ := (PartsAt.later HP.out hb) k hlt
      have hblt := cell_lt c0
      have HBAD := hide (fun (h : partOk ps[k] = false) => show partsOkP ps = false by
        have : ps.all partOk = false := by
          rw [List.all_eq_false]
          exact ⟨ps[k], List.getElem_mem hlt, by rw [h]; simp⟩
        simp [partsOkP, this])
      have hbA := hb.alloc hb.size (.cells #[.int .i64 ps[k].1, .int .i64 ps[k].2.1, .int .i64 ps[k].2.2] 119)
      go_wp2_with fail
      refine (implPartOk_any _ _ _ _).mono ?_
      rintro e w1 ⟨rfl, hb1⟩
      have hb2 := hbA.trans (hb1.mono hbA.size)
      cases hpk : partOk (ps[k].1, ps[k].2.1, ps[k].2.2)
      · have HPK := hide hpk
        clear hpk
        go_wp2_with fail
        go_ret
        exact ⟨ret_b (by rw [← HRES.out, HBAD.out HPK.out]), hb2⟩
      · have HPK := hide hpk
        clear hpk
        go_wp2_with fail
        refine ⟨⟨k + 1, by omega, by go_num, ?_, hb2⟩, by simp [intOf]; omega⟩
        intro u hu hlt'
        by_cases e : u = k
        · subst e; exact HPK.out
        · exact HA.out u hu (by omega)
    · have HG := hide (show partsOkP ps = true by
        have : ps.all partOk = true := by
          rw [List.all_eq_true]
          intro x hx
          obtain ⟨u, hu, rfl⟩ := List.getElem_of_mem hx
          exact HA.out u hu (by omega)
        rw [partsOkP, this, HL.out]; rfl)
      go_wp2_with fail
      go_ret
      exact ⟨ret_b (by rw [← HRES.out, HG.out]), hb⟩

theorem implPartsLen_any (a : Option Addr) (ps : List Prt) (cap : Nat) (w : World) (hn : ps.length ≤ 1048576) (hp : PartsAt w a ps) :
    Calls Try.prog 51 #[.slice a ps.length cap] w fun e w' => e = .returned (.int .i64 (partsLenP ps)) ∧ Below w.heap.size w w' := by
  have HP := hide hp
  clear hp
  go_enter Try.func51, Try.ntmps51
  go_wp2_with fail
  refine (implPartsOk_any a ps cap w hn HP.out).mono ?_
  rintro e w1 ⟨rfl, hb1⟩
  cases hok : partsOkP ps
  · have HR := hide (show partsLenP ps = -1 by simp [partsLenP, hok])
    clear hok
    go_wp2_with fail
    go_ret
    exact ⟨ret_i HR.out.symm, hb1⟩
  have HOK := hide hok
  have HR := hide (show partsLenP ps = lenSum ps by simp [partsLenP, hok])
  have hlen : ps.length ≤ 10000 := by simp only [partsOkP, Bool.and_eq_true, decide_eq_true_eq] at hok; exact hok.2
  clear hok
  go_wp2_with fail
  go_loopw [3, 5, 11] (fun s _ i wr => ∃ (k : Nat), k ≤ ps.length ∧ i = .int .i64 k ∧ s = .int .i64 (lenSum (ps.take k)) ∧ Below w.heap.size w wr) (fun _ _ i _ => ps.length - (intOf i).toNat)
  case atStart => exact ⟨0, Nat.zero_le _, rfl, rfl, hb1⟩
  case round =>
    obtain ⟨k, hk, rfl, rfl, hb⟩ := hrel
    by_cases hlt : k < ps.length
    · obtain ⟨b, off, rfl, c0, c1, c2⟩ := (PartsAt.later HP.out hb) k hlt
      have hblt := cell_lt c0
      have hpb := part_bounds (ok_at HOK.out k hlt)
      have hsb := lenSum_bound HOK.out k hk
      have HSU := hide (lenSum_succ ps k hlt)
      generalize lenSum (ps.take k) = sm at HSU hsb ⊢
      have hbA := hb.alloc hb.size (.cells #[.int .i64 ps[k].1, .int .i64 ps[k].2.1, .int .i64 ps[k].2.2] 119)
      go_wp2_with fail
      refine ⟨⟨k + 1, by omega, by go_num, ?_, hbA⟩, by simp [intOf]; omega⟩
      rw [HSU.out]
    · go_wp2_with fail
      go_ret
      refine ⟨ret_i ?_, hb⟩
      rw [HR.out, List.take_of_length_le (by omega)]
end Go.Proofs.Ytplnppdlabpodaa

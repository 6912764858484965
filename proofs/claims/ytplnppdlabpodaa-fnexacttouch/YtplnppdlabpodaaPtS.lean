/- spec.PartsLen, spec.Touch. Own work. -/
import Derived.Test.YtplnppdlabpodaaNm
import Derived.Test.YtplnppdlabpodaaLhP
import Derived.Deep.QuietTactic
import Derived.BigQuiet
namespace Go.Proofs.Ytplnppdlabpodaa
open Go.RowKit
set_option maxHeartbeats 2000000

abbrev Prt := Int × Int × Int
def partOk (p : Prt) : Bool := inR p.1 0 99 && inR p.2.1 0 10000000 && inR p.2.2 p.2.1 10000000
def partsOkP (ps : List Prt) : Bool := ps.all partOk && decide (ps.length ≤ 10000)
def lenSum (ps : List Prt) : Int := ps.foldl (fun n p => n + (p.2.2 - p.2.1)) 0
def partsLenP (ps : List Prt) : Int := if partsOkP ps = true then lenSum ps else -1
def meets (x y : Prt) : Bool := (x.1 == y.1) && decide (x.2.1 ≤ y.2.2) && decide (y.2.1 ≤ x.2.2)
def touchP (a b : List Prt) : Bool := partsOkP a && partsOkP b && a.any (fun x => b.any (meets x))

theorem lenSum_succ (ps : List Prt) (k : Nat) (hk : k < ps.length) : lenSum (ps.take (k + 1)) = lenSum (ps.take k) + (ps[k].2.2 - ps[k].2.1) := by
  unfold lenSum
  rw [List.take_succ_eq_append_getElem hk, List.foldl_append]
  rfl

theorem part_bounds {p : Prt} (h : partOk p = true) : (0 ≤ p.1 ∧ p.1 ≤ 99) ∧ (0 ≤ p.2.1 ∧ p.2.1 ≤ 10000000) ∧ p.2.1 ≤ p.2.2 ∧ p.2.2 ≤ 10000000 := by
  simp only [partOk, inR, Bool.and_eq_true, decide_eq_true_eq] at h
  omega

theorem ok_at {ps : List Prt} (h : partsOkP ps = true) (k : Nat) (hk : k < ps.length) : partOk ps[k] = true := by
  simp only [partsOkP, Bool.and_eq_true, List.all_eq_true] at h
  exact h.1 _ (List.getElem_mem hk)

theorem lenSum_bound {ps : List Prt} (h : partsOkP ps = true) (k : Nat) (hk : k ≤ ps.length) : 0 ≤ lenSum (ps.take k) ∧ lenSum (ps.take k) ≤ k * 10000000 := by
  induction k with
  | zero => simp [lenSum]
  | succ k ih =>
    rw [lenSum_succ _ _ (by omega)]
    have := ih (by omega)
    have := part_bounds (ok_at h k (by omega))
    omega

theorem l1in_a {x a b : Int} {r : Bool} (h : inR x a b = r) (w : World) : Calls Try.prog 66 #[.int .i64 x, .int .i64 a, .int .i64 b] w fun e w' =>
    e = .returned (.bool r) ∧ w = w' := (l1in_any x a b w).mono fun _ _ h' => ⟨by rw [h'.1, h], h'.2⟩

theorem l3parts_any (a : Option Addr) (ps : List Prt) (cap : Nat) (w : World) (hn : ps.length ≤ 1048576) (hp : PartsAt w a ps) :
    Calls Try.prog 93 #[.slice a ps.length cap] w fun e w' => e = .returned (.bool (partsOkP ps)) ∧ Below w.heap.size w w' := by
  have HP := hide hp
  clear hp
  generalize hRes : partsOkP ps = Res
  have HRES := hide hRes
  clear hRes
  go_enter Try.func93, Try.ntmps93
  go_wp2_with fail
  go_loopw [4, 7] (fun _ i wr => ∃ (k : Nat), k ≤ ps.length ∧ i = .int .i64 k ∧ Hid (∀ u (hu : u < ps.length), u < k → partOk ps[u] = true) ∧ Below w.heap.size w wr) (fun _ i _ => ps.length - (intOf i).toNat)
  case atStart => exact ⟨0, Nat.zero_le _, rfl, fun u hu h => by omega, Below.refl _ _⟩
  case round =>
    obtain ⟨k, hk, rfl, HA, hb⟩ := hrel
    by_cases hlt : k < ps.length
    · obtain ⟨b, off, rfl, c0, c1, c2⟩ := (PartsAt.later HP.out hb) k hlt
      have hblt := cell_lt c0
      have HPK := hide (show partOk ps[k] = (inR ps[k].1 0 99 && inR ps[k].2.1 0 10000000 && inR ps[k].2.2 ps[k].2.1 10000000) from rfl)
      have HBAD := hide (fun (h : partOk ps[k] = false) => show partsOkP ps = false by
        have : ps.all partOk = false := by
          rw [List.all_eq_false]
          exact ⟨ps[k], List.getElem_mem hlt, by rw [h]; simp⟩
        simp [partsOkP, this])
      have hbA := hb.alloc hb.size (.cells #[.int .i64 ps[k].1, .int .i64 ps[k].2.1, .int .i64 ps[k].2.2] 119)
      cases h1 : inR ps[k].1 0 99
      · have H1 := hide h1
        clear h1
        go_wp2_with (first | (go_at_call 66; refine (l1in_a H1.out _).mono ?_; rintro e w1 ⟨rfl, rfl⟩))
        go_ret
        exact ⟨ret_b (by rw [← HRES.out, HBAD.out (by rw [HPK.out, H1.out]; rfl)]), hbA⟩
      have H1 := hide h1
      clear h1
      cases h2 : inR ps[k].2.1 0 10000000
      · have H2 := hide h2
        clear h2
        go_wp2_with fail
        refine (l1in_a H1.out _).mono ?_
        rintro e w1 ⟨rfl, rfl⟩
        go_wp2_with fail
        refine (l1in_a H2.out _).mono ?_
        rintro e w1 ⟨rfl, rfl⟩
        go_wp2_with fail
        go_ret
        exact ⟨ret_b (by rw [← HRES.out, HBAD.out (by rw [HPK.out, H1.out, H2.out]; rfl)]), hbA⟩
      have H2 := hide h2
      clear h2
      cases h3 : inR ps[k].2.2 ps[k].2.1 10000000
      · have H3 := hide h3
        clear h3
        go_wp2_with fail
        refine (l1in_a H1.out _).mono ?_
        rintro e w1 ⟨rfl, rfl⟩
        go_wp2_with fail
        refine (l1in_a H2.out _).mono ?_
        rintro e w1 ⟨rfl, rfl⟩
        go_wp2_with fail
        refine (l1in_a H3.out _).mono ?_
        rintro e w1 ⟨rfl, rfl⟩
        go_wp2_with fail
        go_ret
        exact ⟨ret_b (by rw [← HRES.out, HBAD.out (by rw [HPK.out, H1.out, H2.out, H3.out]; rfl)]), hbA⟩
      have H3 := hide h3
      clear h3
      go_wp2_with fail
      refine (l1in_a H1.out _).mono ?_
      rintro e w1 ⟨rfl, rfl⟩
      go_wp2_with fail
      refine (l1in_a H2.out _).mono ?_
      rintro e w1 ⟨rfl, rfl⟩
      go_wp2_with fail
      refine (l1in_a H3.out _).mono ?_
      rintro e w1 ⟨rfl, rfl⟩
      go_wp2_with fail
      refine ⟨⟨k + 1, by omega, by go_num, ?_, hbA⟩, by simp [intOf]; omega⟩
      intro u hu hlt'
      by_cases e : u = k
      · subst e; rw [HPK.out, H1.out, H2.out, H3.out]; rfl
      · exact HA.out u hu (by omega)
    · have HG := hide (show partsOkP ps = decide (ps.length ≤ 10000) by
        have : ps.all partOk = true := by
          rw [List.all_eq_true]
          intro x hx
          obtain ⟨u, hu, rfl⟩ := List.getElem_of_mem hx
          exact HA.out u hu (by omega)
        simp [partsOkP, this])
      go_wp2_with fail
      go_ret
      refine ⟨ret_b ?_, hb⟩
      rw [← HRES.out, HG.out]
      rw [Bool.eq_iff_iff, decide_eq_true_eq, decide_eq_true_eq]
      omega

theorem specPartsLen_any (a : Option Addr) (ps : List Prt) (cap : Nat) (w : World) (hn : ps.length ≤ 1048576) (hp : PartsAt w a ps) :
    Calls Try.prog 49 #[.slice a ps.length cap] w fun e w' => e = .returned (.int .i64 (partsLenP ps)) ∧ Below w.heap.size w w' := by
  have HP := hide hp
  clear hp
  go_enter Try.func49, Try.ntmps49
  go_wp2_with fail
  refine (l3parts_any a ps cap w hn HP.out).mono ?_
  rintro e w1 ⟨rfl, hb1⟩
  cases hok : partsOkP ps
  · have HR := hide (show partsLenP ps = -1 by simp [partsLenP, hok])
    clear hok
    go_wp2_with fail
    go_ret
    exact ⟨ret_i HR.out.symm, hb1⟩
  have HOK := hide hok
  have HR := hide (show partsLenP ps = lenSum ps by simp [partsLenP, hok])
  have hlen : ps.length ≤ 10000 := by simp only [partsOkP, Bool.and_eq_true, decide_eq_true_eq] at hok; exact hok.2
  clear hok
  go_wp2_with fail
  go_loopw [3, 5, 11] (fun s _ i wr => ∃ (k : Nat), k ≤ ps.length ∧ i = .int .i64 k ∧ s = .int .i64 (lenSum (ps.take k)) ∧ Below w.heap.size w wr) (fun _ _ i _ => ps.length - (intOf i).toNat)
  case atStart => exact ⟨0, Nat.zero_le _, rfl, rfl, hb1⟩
  case round =>
    obtain ⟨k, hk, rfl, rfl, hb⟩ := hrel
    by_cases hlt : k < ps.length
    · obtain ⟨b, off, rfl, c0, c1, c2⟩ := (PartsAt.later HP.out hb) k hlt
      have hblt := cell_lt c0
      have hpb := part_bounds (ok_at HOK.out k hlt)
      have hsb := lenSum_bound HOK.out k hk
      have HSU := hide (lenSum_succ ps k hlt)
      generalize lenSum (ps.take k) = sm at HSU hsb ⊢
      have hbA := hb.alloc hb.size (.cells #[.int .i64 ps[k].1, .int .i64 ps[k].2.1, .int .i64 ps[k].2.2] 119)
      go_wp2_with fail
      refine ⟨⟨k + 1, by omega, by go_num, ?_, hbA⟩, by simp [intOf]; omega⟩
      rw [HSU.out]
    · go_wp2_with fail
      go_ret
      refine ⟨ret_i ?_, hb⟩
      rw [HR.out, List.take_of_length_le (by omega)]

theorem specTouch_any (a a' : Option Addr) (ps qs : List Prt) (cap cap' : Nat) (w : World) (hn : ps.length ≤ 1048576) (hn' : qs.length ≤ 1048576) (hp : PartsAt w a ps) (hq : PartsAt w a' qs) :
    Calls Try.prog 52 #[.slice a ps.length cap, .slice a' qs.length cap'] w fun e w' => e = .returned (.bool (touchP ps qs)) ∧ Below w.heap.size w w' := by
  have HP := hide hp
  have HQ := hide hq
  clear hp hq
  generalize hRes : touchP ps qs = Res
  have HRES := hide hRes
  clear hRes
  go_enter Try.func52, Try.ntmps52
  go_wp2_with fail
  refine (l3parts_any a ps cap w hn HP.out).mono ?_
  rintro e w1 ⟨rfl, hb1⟩
  cases hok : partsOkP ps
  · have HR := hide (show touchP ps qs = false by simp [touchP, hok])
    clear hok
    go_wp2_with fail
    go_ret
    exact ⟨ret_b (by rw [← HRES.out, HR.out]), hb1⟩
  have HOK := hide hok
  clear hok
  go_wp2_with fail
  refine (l3parts_any a' qs cap' w1 hn' (HQ.out.later hb1)).mono ?_
  rintro e w2 ⟨rfl, hb2'⟩
  have hb2 := hb1.trans (hb2'.mono hb1.size)
  clear hb1 hb2'
  cases hok : partsOkP qs
  · have HR := hide (show touchP ps qs = false by simp [touchP, hok])
    clear hok
    go_wp2_with fail
    go_ret
    exact ⟨ret_b (by rw [← HRES.out, HR.out]), hb2⟩
  have HRS := hide (show touchP ps qs = ps.any (fun x => qs.any (meets x)) by simp [touchP, HOK.out, hok])
  clear hok
  go_wp2_with fail
  go_loopw [6, 8, 19] (fun _ _ i wr => ∃ (k : Nat), k ≤ ps.length ∧ i = .int .i64 k ∧ Hid (∀ u (hu : u < ps.length), u < k → qs.any (meets ps[u]) = false) ∧ Below w.heap.size w wr) (fun _ _ i _ => ps.length - (intOf i).toNat)
  case atStart => exact ⟨0, Nat.zero_le _, rfl, fun u hu h => by omega, hb2⟩
  case round =>
    obtain ⟨k, hk, rfl, HA, hb⟩ := hrel
    by_cases hlt : k < ps.length
    · obtain ⟨b, off, rfl, c0, c1, c2⟩ := (PartsAt.later HP.out hb) k hlt
      have hblt := cell_lt c0
      have hbA := hb.alloc hb.size (.cells #[.int .i64 ps[k].1, .int .i64 ps[k].2.1, .int .i64 ps[k].2.2] 119)
      have x0 := new_cell wr #[.int .i64 ps[k].1, .int .i64 ps[k].2.1, .int .i64 ps[k].2.2] 119 0 _ rfl
      have x1 := new_cell wr #[.int .i64 ps[k].1, .int .i64 ps[k].2.1, .int .i64 ps[k].2.2] 119 1 _ rfl
      have x2 := new_cell wr #[.int .i64 ps[k].1, .int .i64 ps[k].2.1, .int .i64 ps[k].2.2] 119 2 _ rfl
      go_wp2_with fail
      go_loopw [8, 25] (fun _ i wi => ∃ (t : Nat), t ≤ qs.length ∧ i = .int .i64 t ∧ Hid (∀ u (hu : u < qs.length), u < t → meets ps[k] qs[u] = false) ∧ wi.cell? ⟨wr.heap.size, 0, none⟩ = some (.int .i64 ps[k].1) ∧ wi.cell? ⟨wr.heap.size, 1, none⟩ = some (.int .i64 ps[k].2.1) ∧ wi.cell? ⟨wr.heap.size, 2, none⟩ = some (.int .i64 ps[k].2.2) ∧ Below w.heap.size w wi) (fun _ i _ => qs.length - (intOf i).toNat)
      case atStart => exact ⟨0, Nat.zero_le _, rfl, fun u hu h => by omega, x0, x1, x2, hbA⟩
      case round =>
        obtain ⟨t, ht, rfl, HB, y0, y1, y2, hbi⟩ := hrel
        have hzz := cell_lt y0
        by_cases hti : t < qs.length
        · obtain ⟨b', off', rfl, d0, d1, d2⟩ := (PartsAt.later HQ.out hbi) t hti
          have hblt' := cell_lt d0
          have hbB := hbi.alloc hbi.size (.cells #[.int .i64 qs[t].1, .int .i64 qs[t].2.1, .int .i64 qs[t].2.2] 119)
          have hA' := (Below.refl wr.heap.size wr).alloc (Nat.le_refl _) (.cells #[.int .i64 qs[t].1, .int .i64 qs[t].2.1, .int .i64 qs[t].2.2] 119)
          cases h1 : (ps[k].1 == qs[t].1)
          · have HF := hide (show meets ps[k] qs[t] = false by simp only [meets, h1]; rfl)
            go_wp2_with fail
            refine ⟨⟨t + 1, by omega, by go_num, ?_, cell_later' hA' y0, cell_later' hA' y1, cell_later' hA' y2, hbB⟩, by simp [intOf]; omega⟩
            intro u hu hlt'
            by_cases e : u = t
            · subst e; exact HF.out
            · exact HB.out u hu (by omega)
          by_cases h2 : ps[k].2.1 ≤ qs[t].2.2
          · by_cases h3 : qs[t].2.1 ≤ ps[k].2.2
            · have HF := hide (show touchP ps qs = true by
                rw [HRS.out, List.any_eq_true]
                refine ⟨ps[k], List.getElem_mem hlt, ?_⟩
                rw [List.any_eq_true]
                exact ⟨qs[t], List.getElem_mem hti, by simp [meets, h1, h2, h3]⟩)
              have q2 : decide (ps[k].2.1 ≤ qs[t].2.2) = true := decide_eq_true h2
              have q3 : decide (qs[t].2.1 ≤ ps[k].2.2) = true := decide_eq_true h3
              go_wp2_with fail
              go_ret
              exact ⟨ret_b (by rw [← HRES.out, HF.out]), hbB⟩
            · have HF := hide (show meets ps[k] qs[t] = false by simp [meets, h3])
              have q2 : decide (ps[k].2.1 ≤ qs[t].2.2) = true := decide_eq_true h2
              have q3 : decide (qs[t].2.1 ≤ ps[k].2.2) = false := decide_eq_false h3
              go_wp2_with fail
              refine ⟨⟨t + 1, by omega, by go_num, ?_, cell_later' hA' y0, cell_later' hA' y1, cell_later' hA' y2, hbB⟩, by simp [intOf]; omega⟩
              intro u hu hlt'
              by_cases e : u = t
              · subst e; exact HF.out
              · exact HB.out u hu (by omega)
          · have HF := hide (show meets ps[k] qs[t] = false by simp [meets, h2])
            have q2 : decide (ps[k].2.1 ≤ qs[t].2.2) = false := decide_eq_false h2
            go_wp2_with fail
            refine ⟨⟨t + 1, by omega, by go_num, ?_, cell_later' hA' y0, cell_later' hA' y1, cell_later' hA' y2, hbB⟩, by simp [intOf]; omega⟩
            intro u hu hlt'
            by_cases e : u = t
            · subst e; exact HF.out
            · exact HB.out u hu (by omega)
        · have HF := hide (show qs.any (meets ps[k]) = false by
            rw [List.any_eq_false]
            intro x hx
            obtain ⟨u, hu, rfl⟩ := List.getElem_of_mem hx
            rw [HB.out u hu (by omega)]; simp)
          go_wp2_with fail
          go_roundw
          case rel =>
            refine ⟨k + 1, by omega, by go_num, ?_, hbi⟩
            intro u hu hlt'
            by_cases e : u = k
            · subst e; exact HF.out
            · exact HA.out u hu (by omega)
          case measure => simp [intOf]; omega
    · have HG := hide (show touchP ps qs = false by
        rw [HRS.out, List.any_eq_false]
        intro x hx
        obtain ⟨u, hu, rfl⟩ := List.getElem_of_mem hx
        rw [HA.out u hu (by omega)]; simp)
      go_wp2_with fail
      go_ret
      exact ⟨ret_b (by rw [← HRES.out, HG.out]), hb⟩
end Go.Proofs.Ytplnppdlabpodaa

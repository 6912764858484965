import Derived.Test.YtplnppdlabpodaaSpC
import Derived.Test.YtplnppdlabpodaaPl3
import Derived.Test.YtplnppdlabpodaaMxAB
import Derived.Test.YtplnppdlabpodaaTo
import Derived.Deep.QuietTactic
import Derived.BigQuiet
import Derived.Deep.RegionWith
namespace Go.Proofs.Ytplnppdlabpodaa
open Go.RowKit
set_option maxHeartbeats 1000000

theorem l1ok_any (a a' : Option Addr) (N : Nt) (cap cap' : Nat) (w : World) (hn : N.pcs.length ≤ 1048576) (hs : ∀ p ∈ N.pcs, p.name.size ≤ 1048576) (hl : N.jts.length ≤ 1048576) (hm : ∀ j ∈ N.jts, j.name.size ≤ 1048576 ∧ j.ends.length ≤ 1048576) (hp : PcsAt w a N.pcs) (hj : JtsAt w a' N.jts) :
    Calls Try.prog 78 #[.agg #[.slice a N.pcs.length cap, .slice a' N.jts.length cap']] w fun e w' =>
    e = .returned (.bool (decide (netOk N = (0, 0)))) ∧ Below w.heap.size w w' := by
  have HP := hide hp
  have HJ := hide hj
  have HM := hide hm
  have HS := hide hs
  clear hp hj hm hs
  go_enter Try.func78, Try.ntmps78
  go_wp2_with fail
  have hbW : Below w.heap.size w (w.alloc (.cells #[.slice a N.pcs.length cap, .slice a' N.jts.length cap'] 33)) := (Below.refl _ _).alloc (Nat.le_refl _) _
  refine (specNetOk_any a a' N cap cap' _ hn HS.out hl HM.out (HP.out.later hbW) (HJ.out.later hbW)).mono ?_
  rintro e w1 ⟨rfl, hb1⟩
  have hb2 := hbW.trans (hb1.mono hbW.size)
  go_wp2_with fail
  go_ret
  exact ⟨ret_b netOk_code, hb2.alloc hb2.size _⟩
end Go.Proofs.Ytplnppdlabpodaa

namespace Go.Proofs.Ytplnppdlabpodaa
open Go.RowKit
set_option maxHeartbeats 1000000

theorem l1at_any (a a' : Option Addr) (n cap cap' : Nat) (js : List Jt) (p s : Int) (w : World) (hn : js.length ≤ 1048576) (hm : ∀ j ∈ js, j.ends.length ≤ 1048576) (hj : JtsAt w a' js) :
    Calls Try.prog 80 #[.agg #[.slice a n cap, .slice a' js.length cap'], .agg #[.int .i64 p, .int .i64 s]] w fun e w' =>
    ∃ x y : Int, e = .returned (.tuple #[.int .i64 x, .int .i64 y]) ∧ ((∃ j i : Nat, x = j ∧ y = i ∧ At js (p, s) j i) ∨ (∀ j i, ¬ At js (p, s) j i)) ∧ Below w.heap.size w w' := by
  have HJ := hide hj
  have HM := hide hm
  clear hj hm
  go_enter Try.func80, Try.ntmps80
  go_wp2
  have hbW : Below w.heap.size w ((w.alloc (.cells #[.slice a n cap, .slice a' js.length cap'] 33)).alloc (.cells #[.int .i64 p, .int .i64 s] 41)) := ((Below.refl _ _).alloc (Nat.le_refl _) _).alloc (by simp) _
  go_loopw [6, 7, 8, 9, 13] (fun _ _ _ _ i wr => ∃ (k : Nat), k ≤ js.length ∧ i = .int .i64 k ∧ Hid (∀ j i, j < k → ¬ At js (p, s) j i) ∧ wr.cell? ⟨w.heap.size + 1, 0, none⟩ = some (.int .i64 p) ∧ wr.cell? ⟨w.heap.size + 1, 1, none⟩ = some (.int .i64 s) ∧ Below w.heap.size w wr) (fun _ _ _ _ i _ => js.length - (intOf i).toNat)
  case atStart => exact ⟨0, Nat.zero_le _, rfl, (fun j i hj => by omega), by simp [go_sem], by simp [go_sem], hbW⟩
  case round =>
    obtain ⟨k, hk, rfl, hno, e0, e1, hb⟩ := hrel
    have hz := cell_lt e0
    by_cases hlt : k < js.length
    · obtain ⟨b, off, ea, ec, rfl, c0, c1, c2, ce⟩ := (JtsAt.later HJ.out hb) k hlt
      have CE := hide ce
      have hm := HM.out _ (List.getElem_mem hlt)
      clear ce
      go_wp2
      have hbA : Below wr.heap.size wr (wr.alloc (Obj.cells #[Value.int IntKind.i64 js[k].kind, Value.string js[k].name, Value.slice ea js[k].ends.length ec] 110)) := (Below.refl _ _).alloc (Nat.le_refl _) _
      go_loopw [8, 9, 21] (fun _ _ i wi => ∃ (t : Nat), t ≤ js[k].ends.length ∧ i = .int .i64 t ∧ Hid (∀ i (_ : i < t) (hi : i < js[k].ends.length), js[k].ends[i] ≠ (p, s)) ∧ Below wr.heap.size wr wi) (fun _ _ i _ => js[k].ends.length - (intOf i).toNat)
      case atStart => exact ⟨0, Nat.zero_le _, rfl, (fun i hi => by omega), hbA⟩
      case round =>
        obtain ⟨t, ht, rfl, hno2, hbi⟩ := hrel
        have e0' := cell_keep hbi (by omega) e0
        have e1' := cell_keep hbi (by omega) e1
        have hB := hb.trans (hbi.mono hb.size)
        by_cases hti : t < js[k].ends.length
        · obtain ⟨b2, off2, rfl, d0, d1⟩ := (EndsAt.later CE.out hbi) t hti
          have hzi : w.heap.size + 1 < wr.heap.size := Nat.lt_of_lt_of_le (by omega) hbi.size
          go_wp2
          · go_ret2
            refine ⟨k, t, rfl, Or.inl ⟨k, t, rfl, rfl, hlt, hti, Prod.ext ‹_› ‹_›⟩, hB.alloc hB.size _⟩
          · refine ⟨⟨t + 1, by omega, by go_num, ?_, hbi.alloc hbi.size _⟩, by simp [intOf]; omega⟩
            intro i hi hi'
            by_cases e : i = t
            · subst e; exact fun h => ‹¬ _› (congrArg Prod.snd h)
            · exact hno2.out i (by omega) hi'
          · refine ⟨⟨t + 1, by omega, by go_num, ?_, hbi.alloc hbi.size _⟩, by simp [intOf]; omega⟩
            intro i hi hi'
            by_cases e : i = t
            · subst e; exact fun h => ‹¬ _› (congrArg Prod.fst h)
            · exact hno2.out i (by omega) hi'
        · go_wp2
          go_roundw
          case rel =>
            refine ⟨k + 1, by omega, by go_num, ?_, e0', e1', hB⟩
            intro j i hj hat
            by_cases e : j = k
            · subst e
              obtain ⟨_, hi, he⟩ := hat
              exact hno2.out i (by omega) hi he
            · exact hno.out j i (by omega) hat
          case measure => simp [intOf]; omega
    · go_wp2
      go_ret2
      refine ⟨-1, -1, rfl, Or.inr ?_, hb⟩
      intro j i hat
      have hj := hat.1
      exact hno.out j i (by omega) hat
end Go.Proofs.Ytplnppdlabpodaa

namespace Go.Proofs.Ytplnppdlabpodaa
open Go.RowKit
set_option maxHeartbeats 1000000

def lenAt (N : Nt) (q : Int) : Int := match N.pcs[q.toNat]? with
  | some p => p.len
  | none => 0
def spotP (N : Nt) (q at' way : Int) : Bool := inR q 0 ((N.pcs.length : Int) - 1) && (way == 1 || way == -1) && inR at' 0 (lenAt N q)

theorem l1in_b {x a b : Int} {r : Bool} (h : inR x a b = r) (w : World) : Calls Try.prog 66 #[.int .i64 x, .int .i64 a, .int .i64 b] w fun e w' =>
    e = .returned (.bool r) ∧ w' = w := (l1in_any x a b w).mono fun _ _ h' => ⟨by rw [h'.1, h], h'.2.symm⟩

theorem l3spot_any (a a' : Option Addr) (N : Nt) (cap cap' : Nat) (q at' way : Int) (w : World) (hn : N.pcs.length ≤ 1048576) (hp : PcsAt w a N.pcs) :
    Calls Try.prog 87 #[.agg #[.slice a N.pcs.length cap, .slice a' N.jts.length cap'], .agg #[.int .i64 q, .int .i64 at', .int .i64 way]] w fun e w' =>
    e = .returned (.bool (spotP N q at' way)) ∧ Below w.heap.size w w' := by
  have hbW : Below w.heap.size w ((w.alloc (.cells #[.slice a N.pcs.length cap, .slice a' N.jts.length cap'] 33)).alloc (.cells #[.int .i64 q, .int .i64 at', .int .i64 way] 52)) := ((Below.refl _ _).alloc (Nat.le_refl _) _).alloc (by simp) _
  cases h1 : inR q 0 ((N.pcs.length : Int) - 1)
  · have H1 := hide h1
    clear h1 hp
    go_enter Try.func87, Try.ntmps87
    go_wp2_with fail
    go_quiet ((go_at_call 66; exact Calls.quiet_of_same (l1in_b H1.out _)))
    go_wp2_with fail
    go_ret
    exact ⟨ret_b (by simp [spotP, H1.out]), below_drewN hbW _⟩
  · have H1 := hide h1
    have hq : 0 ≤ q ∧ q < (N.pcs.length : Int) := by simp [inR] at h1; omega
    clear h1
    obtain ⟨k, rfl⟩ := Int.eq_ofNat_of_zero_le hq.1
    have hk : k < N.pcs.length := by omega
    obtain ⟨b, off, rfl, c0, c1, c2, c3⟩ := hp k hk
    have hblt := cell_lt c0
    have hlen : lenAt N (k : Int) = N.pcs[k].len := by simp [lenAt, hk]
    have HLEN := hide hlen
    clear hp hlen c0 c2 c3
    by_cases hw1 : way = 1
    · subst hw1
      cases h2 : inR at' 0 N.pcs[k].len
      all_goals
        have H2 := hide h2
        clear h2
        go_enter Try.func87, Try.ntmps87
        go_wp2_with fail
        go_quiet ((first | (go_at_call_of 66 (Value.int IntKind.i64 at'); exact Calls.quiet_of_same (l1in_b H2.out _)) | (go_at_call 66; exact Calls.quiet_of_same (l1in_b H1.out _))))
        go_wp2_with fail
        go_ret
        exact ⟨ret_b (by simp [spotP, H1.out, HLEN.out, H2.out]), below_drewN hbW _⟩
    · by_cases hw2 : way = -1
      · subst hw2
        cases h2 : inR at' 0 N.pcs[k].len
        all_goals
          have H2 := hide h2
          clear h2
          go_enter Try.func87, Try.ntmps87
          go_wp2_with fail
          go_quiet ((first | (go_at_call_of 66 (Value.int IntKind.i64 at'); exact Calls.quiet_of_same (l1in_b H2.out _)) | (go_at_call 66; exact Calls.quiet_of_same (l1in_b H1.out _))))
          go_wp2_with fail
          go_ret
          exact ⟨ret_b (by simp [spotP, H1.out, HLEN.out, H2.out]), below_drewN hbW _⟩
      · have q1 : (way == 1) = false := by rw [beq_eq_false_iff_ne]; exact hw1
        have q2 : (way == -1) = false := by rw [beq_eq_false_iff_ne]; exact hw2
        clear hw1 hw2
        have HQ1 := hide q1
        have HQ2 := hide q2
        go_enter Try.func87, Try.ntmps87
        go_wp2_with fail
        go_quiet ((go_at_call 66; exact Calls.quiet_of_same (l1in_b H1.out _)))
        go_wp2_with fail
        go_ret
        exact ⟨ret_b (by simp [spotP, H1.out, HQ1.out, HQ2.out]), below_drewN hbW _⟩
end Go.Proofs.Ytplnppdlabpodaa

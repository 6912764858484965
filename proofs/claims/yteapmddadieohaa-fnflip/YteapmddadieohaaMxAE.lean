/- Where an end stands in a right net. Own work. -/
import Derived.Test.YteapmddadieohaaMxAC
import Derived.Test.YteapmddadieohaaSpC
import Derived.Test.YteapmddadieohaaMxAD
import Derived.Test.YteapmddadieohaaTo
import Derived.Deep.QuietTactic
import Derived.BigQuiet
import Derived.Deep.RegionWith
namespace Go.Proofs.Yteapmddadieohaa

theorem right_facts {N : Nt} (h : netOk N = (0, 0)) : sizeBad N = false ∧ (∀ j, j < N.pcs.length → pcBad N.pcs j = false) ∧ (∀ j, j < N.jts.length → jtBad3 N.pcs.length N.jts j = false) ∧ (∀ j, j < N.jts.length → jtBad4 N.jts j = false) ∧ (∀ j, j < N.pcs.length → pcBad5 N.jts j = false) := by
  cases hs : sizeBad N
  case true => rw [netOk_1 hs] at h; simp at h
  rcases first_cases (pcBad N.pcs) N.pcs.length with ⟨_, h2⟩ | ⟨i, hi, _, hb, hlt⟩
  case inr => rw [netOk_2 hs hi hb hlt] at h; simp at h
  rcases first_cases (jtBad3 N.pcs.length N.jts) N.jts.length with ⟨_, h3⟩ | ⟨i, hi, _, hb, hlt⟩
  case inr => rw [netOk_3 hs h2 hi hb hlt] at h; simp at h
  rcases first_cases (jtBad4 N.jts) N.jts.length with ⟨_, h4⟩ | ⟨i, hi, _, hb, hlt⟩
  case inr => rw [netOk_4 hs h2 h3 hi hb hlt] at h; simp at h
  rcases first_cases (pcBad5 N.jts) N.pcs.length with ⟨_, h5⟩ | ⟨i, hi, _, hb, hlt⟩
  case inr => rw [netOk_5 hs h2 h3 h4 hi hb hlt] at h; simp at h
  exact ⟨rfl, h2, h3, h4, h5⟩

/-- A net's code is 0 just where it is right. -/
theorem netOk_code {N : Nt} : ((netOk N).1 == 0) = decide (netOk N = (0, 0)) := by
  cases hs : sizeBad N
  case true => rw [netOk_1 hs]; rfl
  rcases first_cases (pcBad N.pcs) N.pcs.length with ⟨_, h2⟩ | ⟨i, hi, _, hb, hlt⟩
  case inr => rw [netOk_2 hs hi hb hlt]; simp
  rcases first_cases (jtBad3 N.pcs.length N.jts) N.jts.length with ⟨_, h3⟩ | ⟨i, hi, _, hb, hlt⟩
  case inr => rw [netOk_3 hs h2 hi hb hlt]; simp
  rcases first_cases (jtBad4 N.jts) N.jts.length with ⟨_, h4⟩ | ⟨i, hi, _, hb, hlt⟩
  case inr => rw [netOk_4 hs h2 h3 hi hb hlt]; simp
  rcases first_cases (pcBad5 N.jts) N.pcs.length with ⟨_, h5⟩ | ⟨i, hi, _, hb, hlt⟩
  case inr => rw [netOk_5 hs h2 h3 h4 hi hb hlt]; simp
  rw [netOk_0 hs h2 h3 h4 h5]; rfl

/-- The end e stands in joint j at place i. -/
def At (js : List Jt) (e : Int × Int) (j i : Nat) : Prop := ∃ (hj : j < js.length) (hi : i < js[j].ends.length), js[j].ends[i] = e

theorem count_pos_of {es : List (Int × Int)} {e : Int × Int} {i k : Nat} (hi : i < es.length) (hk : i < k) (h : es[i] = e) : 1 ≤ (es.take k).count e := by
  have : e ∈ es.take k := by
    rw [List.mem_take_iff_getElem]; exact ⟨i, by omega, h⟩
  exact List.count_pos_iff.2 this

theorem count_take_le {es : List (Int × Int)} {e : Int × Int} {k m : Nat} (h : k ≤ m) : (es.take k).count e ≤ (es.take m).count e := by
  have : (es.take k).Sublist (es.take m) := by
    rw [show es.take k = (es.take m).take k by rw [List.take_take, Nat.min_eq_left h]]
    exact List.take_sublist _ _
  exact this.count_le _

theorem count_two {es : List (Int × Int)} {e : Int × Int} {i k : Nat} (hi : i < k) (hk : k < es.length) (h1 : es[i] = e) (h2 : es[k] = e) : 2 ≤ es.count e := by
  have a1 := count_pos_of (es := es) (e := e) (i := i) (k := k) (by omega) hi h1
  have a2 : (es.take (k + 1)).count e = (es.take k).count e + 1 := by
    rw [List.take_succ_eq_append_getElem hk, List.count_append, h2]; simp
  have a3 := count_take_le (es := es) (e := e) (k := k + 1) (m := es.length) (by omega)
  rw [List.take_length] at a3
  omega

theorem uses_take_le {js : List Jt} {e : Int × Int} {k m : Nat} (h : k ≤ m) : uses (js.take k) e ≤ uses (js.take m) e := by
  unfold uses allEnds
  rw [show js.take k = (js.take m).take k by rw [List.take_take, Nat.min_eq_left h]]
  have : (((js.take m).take k).flatMap (·.ends)).Sublist ((js.take m).flatMap (·.ends)) := by
    conv => rhs; rw [← List.take_append_drop k (js.take m)]
    rw [List.flatMap_append]
    exact List.sublist_append_left _ _
  exact this.count_le _

theorem uses_succ' (js : List Jt) (k : Nat) (hk : k < js.length) (e : Int × Int) : uses (js.take (k + 1)) e = uses (js.take k) e + js[k].ends.count e := by
  unfold uses allEnds
  rw [List.take_succ_eq_append_getElem hk, List.flatMap_append, List.count_append, List.flatMap_singleton]

theorem At.uses_pos {js : List Jt} {e : Int × Int} {j i : Nat} (h : At js e j i) : 1 ≤ uses (js.take (j + 1)) e := by
  obtain ⟨hj, hi, he⟩ := h
  rw [uses_succ' js j hj]
  have := count_pos_of (es := js[j].ends) (e := e) (k := js[j].ends.length) hi hi he
  rw [List.take_length] at this
  omega

theorem At.unique {js : List Jt} {e : Int × Int} {j i j' i' : Nat} (h : At js e j i) (h' : At js e j' i') (hu : uses js e = 1) : j = j' ∧ i = i' := by
  have key : ∀ {j i j' i' : Nat}, At js e j i → At js e j' i' → ¬ j < j' := by
    intro j i j' i' h h' hlt
    have a1 := h.uses_pos
    have a2 := uses_take_le (js := js) (e := e) (k := j + 1) (m := j') (by omega)
    obtain ⟨hj, hi, he⟩ := h'
    have a3 := uses_succ' js j' hj e
    have a4 := count_pos_of (es := js[j'].ends) (e := e) (k := js[j'].ends.length) hi hi he
    rw [List.take_length] at a4
    have a5 := uses_take_le (js := js) (e := e) (k := j' + 1) (m := js.length) (by omega)
    rw [List.take_length] at a5
    omega
  have hjj : j = j' := by
    have := key h h'
    have := key h' h
    omega
  subst hjj
  refine ⟨rfl, ?_⟩
  obtain ⟨hj, hi, he⟩ := h
  obtain ⟨_, hi', he'⟩ := h'
  have b1 := uses_succ' js j hj e
  have b2 := uses_take_le (js := js) (e := e) (k := j + 1) (m := js.length) (by omega)
  rw [List.take_length] at b2
  rcases Nat.lt_trichotomy i i' with hl | hl | hl
  · have := count_two hl hi' he he'; omega
  · exact hl
  · have := count_two hl hi he' he; omega

theorem at_of_uses {js : List Jt} {e : Int × Int} (h : 1 ≤ uses js e) : ∃ j i, At js e j i := by
  have hm : e ∈ allEnds js := List.count_pos_iff.1 h
  unfold allEnds at hm
  rw [List.mem_flatMap] at hm
  obtain ⟨x, hx, he⟩ := hm
  obtain ⟨j, hj, rfl⟩ := List.getElem_of_mem hx
  obtain ⟨i, hi, hei⟩ := List.getElem_of_mem he
  exact ⟨j, i, hj, hi, hei⟩

theorem endOk_of_at {n : Nat} {js : List Jt} (h3 : ∀ k, k < js.length → jtBad3 n js k = false) {e : Int × Int} {j i : Nat} (h : At js e j i) : endOk n e = true := by
  obtain ⟨hj, hi, rfl⟩ := h
  have h := h3 j hj
  rw [jtBad3_eq hj] at h
  simp only [Bool.or_eq_false_iff] at h
  have h2 := List.any_eq_false.1 h.2 js[j].ends[i] (List.getElem_mem hi)
  simpa using h2

theorem uses_right {N : Nt} (h : netOk N = (0, 0)) {e : Int × Int} (he : endOk N.pcs.length e = true) : uses N.jts e = 1 := by
  obtain ⟨_, _, _, _, h5⟩ := right_facts h
  simp [endOk, inR] at he
  obtain ⟨x, y⟩ := e
  obtain ⟨⟨hx0, hx1⟩, hy0, hy1⟩ := he
  simp only at hx0 hx1 hy0 hy1
  obtain ⟨k, rfl⟩ := Int.eq_ofNat_of_zero_le hx0
  have h := h5 k (by omega)
  simp [pcBad5] at h
  have hy : y = 0 ∨ y = 1 := by omega
  rcases hy with rfl | rfl
  · exact h.1
  · exact h.2
end Go.Proofs.Yteapmddadieohaa

namespace Go.Proofs.Yteapmddadieohaa
open Go.RowKit
set_option maxHeartbeats 1000000

theorem l1ok_any (a a' : Option Addr) (N : Nt) (cap cap' : Nat) (w : World) (hn : N.pcs.length ≤ 1048576) (hs : ∀ p ∈ N.pcs, p.name.size ≤ 1048576) (hl : N.jts.length ≤ 1048576) (hm : ∀ j ∈ N.jts, j.name.size ≤ 1048576 ∧ j.ends.length ≤ 1048576) (hp : PcsAt w a N.pcs) (hj : JtsAt w a' N.jts) :
    Calls Try.prog 32 #[.agg #[.slice a N.pcs.length cap, .slice a' N.jts.length cap']] w fun e w' =>
    e = .returned (.bool (decide (netOk N = (0, 0)))) ∧ Below w.heap.size w w' := by
  have HP := hide hp
  have HJ := hide hj
  have HM := hide hm
  have HS := hide hs
  clear hp hj hm hs
  go_enter Try.func32, Try.ntmps32
  go_wp2_with fail
  have hbW : Below w.heap.size w (w.alloc (.cells #[.slice a N.pcs.length cap, .slice a' N.jts.length cap'] 26)) := (Below.refl _ _).alloc (Nat.le_refl _) _
  refine (specNetOk_any a a' N cap cap' _ hn HS.out hl HM.out (HP.out.later hbW) (HJ.out.later hbW)).mono ?_
  rintro e w1 ⟨rfl, hb1⟩
  have hb2 := hbW.trans (hb1.mono hbW.size)
  go_wp2_with fail
  go_ret
  exact ⟨ret_b netOk_code, hb2.alloc hb2.size _⟩
end Go.Proofs.Yteapmddadieohaa

namespace Go.Proofs.Yteapmddadieohaa
open Go.RowKit
set_option maxHeartbeats 1000000

theorem l1at_any (a a' : Option Addr) (n cap cap' : Nat) (js : List Jt) (p s : Int) (w : World) (hn : js.length ≤ 1048576) (hm : ∀ j ∈ js, j.ends.length ≤ 1048576) (hj : JtsAt w a' js) :
    Calls Try.prog 45 #[.agg #[.slice a n cap, .slice a' js.length cap'], .agg #[.int .i64 p, .int .i64 s]] w fun e w' =>
    ∃ x y : Int, e = .returned (.tuple #[.int .i64 x, .int .i64 y]) ∧ ((∃ j i : Nat, x = j ∧ y = i ∧ At js (p, s) j i) ∨ (∀ j i, ¬ At js (p, s) j i)) ∧ Below w.heap.size w w' := by
  have HJ := hide hj
  have HM := hide hm
  clear hj hm
  go_enter Try.func45, Try.ntmps45
  go_wp2
  have hbW : Below w.heap.size w ((w.alloc (.cells #[.slice a n cap, .slice a' js.length cap'] 26)).alloc (.cells #[.int .i64 p, .int .i64 s] 59)) := ((Below.refl _ _).alloc (Nat.le_refl _) _).alloc (by simp) _
  go_loopw [6, 7, 8, 9, 13] (fun _ _ _ _ i wr => ∃ (k : Nat), k ≤ js.length ∧ i = .int .i64 k ∧ Hid (∀ j i, j < k → ¬ At js (p, s) j i) ∧ wr.cell? ⟨w.heap.size + 1, 0, none⟩ = some (.int .i64 p) ∧ wr.cell? ⟨w.heap.size + 1, 1, none⟩ = some (.int .i64 s) ∧ Below w.heap.size w wr) (fun _ _ _ _ i _ => js.length - (intOf i).toNat)
  case atStart => exact ⟨0, Nat.zero_le _, rfl, (fun j i hj => by omega), by simp [go_sem], by simp [go_sem], hbW⟩
  case round =>
    obtain ⟨k, hk, rfl, hno, e0, e1, hb⟩ := hrel
    have hz := cell_lt e0
    by_cases hlt : k < js.length
    · obtain ⟨b, off, ea, ec, rfl, c0, c1, c2, ce⟩ := (JtsAt.later HJ.out hb) k hlt
      have CE := hide ce
      have hm := HM.out _ (List.getElem_mem hlt)
      clear ce
      go_wp2
      have hbA : Below wr.heap.size wr (wr.alloc (Obj.cells #[Value.int IntKind.i64 js[k].kind, Value.string js[k].name, Value.slice ea js[k].ends.length ec] 53)) := (Below.refl _ _).alloc (Nat.le_refl _) _
      go_loopw [8, 9, 21] (fun _ _ i wi => ∃ (t : Nat), t ≤ js[k].ends.length ∧ i = .int .i64 t ∧ Hid (∀ i (_ : i < t) (hi : i < js[k].ends.length), js[k].ends[i] ≠ (p, s)) ∧ Below wr.heap.size wr wi) (fun _ _ i _ => js[k].ends.length - (intOf i).toNat)
      case atStart => exact ⟨0, Nat.zero_le _, rfl, (fun i hi => by omega), hbA⟩
      case round =>
        obtain ⟨t, ht, rfl, hno2, hbi⟩ := hrel
        have e0' := cell_keep hbi (by omega) e0
        have e1' := cell_keep hbi (by omega) e1
        have hB := hb.trans (hbi.mono hb.size)
        by_cases hti : t < js[k].ends.length
        · obtain ⟨b2, off2, rfl, d0, d1⟩ := (EndsAt.later CE.out hbi) t hti
          have hzi : w.heap.size + 1 < wr.heap.size := Nat.lt_of_lt_of_le (by omega) hbi.size
          go_wp2
          · go_ret2
            refine ⟨k, t, rfl, Or.inl ⟨k, t, rfl, rfl, hlt, hti, Prod.ext ‹_› ‹_›⟩, hB.alloc hB.size _⟩
          · refine ⟨⟨t + 1, by omega, by go_num, ?_, hbi.alloc hbi.size _⟩, by simp [intOf]; omega⟩
            intro i hi hi'
            by_cases e : i = t
            · subst e; exact fun h => ‹¬ _› (congrArg Prod.snd h)
            · exact hno2.out i (by omega) hi'
          · refine ⟨⟨t + 1, by omega, by go_num, ?_, hbi.alloc hbi.size _⟩, by simp [intOf]; omega⟩
            intro i hi hi'
            by_cases e : i = t
            · subst e; exact fun h => ‹¬ _› (congrArg Prod.fst h)
            · exact hno2.out i (by omega) hi'
        · go_wp2
          go_roundw
          case rel =>
            refine ⟨k + 1, by omega, by go_num, ?_, e0', e1', hB⟩
            intro j i hj hat
            by_cases e : j = k
            · subst e
              obtain ⟨_, hi, he⟩ := hat
              exact hno2.out i (by omega) hi he
            · exact hno.out j i (by omega) hat
          case measure => simp [intOf]; omega
    · go_wp2
      go_ret2
      refine ⟨-1, -1, rfl, Or.inr ?_, hb⟩
      intro j i hat
      have hj := hat.1
      exact hno.out j i (by omega) hat
end Go.Proofs.Yteapmddadieohaa

namespace Go.Proofs.Yteapmddadieohaa
open Go.RowKit
set_option maxHeartbeats 1000000

def lenAt (N : Nt) (q : Int) : Int := match N.pcs[q.toNat]? with
  | some p => p.len
  | none => 0
def spotP (N : Nt) (q at' way : Int) : Bool := inR q 0 ((N.pcs.length : Int) - 1) && (way == 1 || way == -1) && inR at' 0 (lenAt N q)

theorem l1in_b {x a b : Int} {r : Bool} (h : inR x a b = r) (w : World) : Calls Try.prog 35 #[.int .i64 x, .int .i64 a, .int .i64 b] w fun e w' =>
    e = .returned (.bool r) ∧ w' = w := (l1in_any x a b w).mono fun _ _ h' => ⟨by rw [h'.1, h], h'.2.symm⟩

theorem l3spot_any (a a' : Option Addr) (N : Nt) (cap cap' : Nat) (q at' way : Int) (w : World) (hn : N.pcs.length ≤ 1048576) (hp : PcsAt w a N.pcs) :
    Calls Try.prog 34 #[.agg #[.slice a N.pcs.length cap, .slice a' N.jts.length cap'], .agg #[.int .i64 q, .int .i64 at', .int .i64 way]] w fun e w' =>
    e = .returned (.bool (spotP N q at' way)) ∧ Below w.heap.size w w' := by
  have hbW : Below w.heap.size w ((w.alloc (.cells #[.slice a N.pcs.length cap, .slice a' N.jts.length cap'] 26)).alloc (.cells #[.int .i64 q, .int .i64 at', .int .i64 way] 29)) := ((Below.refl _ _).alloc (Nat.le_refl _) _).alloc (by simp) _
  cases h1 : inR q 0 ((N.pcs.length : Int) - 1)
  · have H1 := hide h1
    clear h1 hp
    go_enter Try.func34, Try.ntmps34
    go_wp2_with fail
    go_quiet ((go_at_call 35; exact Calls.quiet_of_same (l1in_b H1.out _)))
    go_wp2_with fail
    go_ret
    exact ⟨ret_b (by simp [spotP, H1.out]), below_drewN hbW _⟩
  · have H1 := hide h1
    have hq : 0 ≤ q ∧ q < (N.pcs.length : Int) := by simp [inR] at h1; omega
    clear h1
    obtain ⟨k, rfl⟩ := Int.eq_ofNat_of_zero_le hq.1
    have hk : k < N.pcs.length := by omega
    obtain ⟨b, off, rfl, c0, c1, c2, c3⟩ := hp k hk
    have hblt := cell_lt c0
    have hlen : lenAt N (k : Int) = N.pcs[k].len := by simp [lenAt, hk]
    have HLEN := hide hlen
    clear hp hlen c0 c2 c3
    by_cases hw1 : way = 1
    · subst hw1
      cases h2 : inR at' 0 N.pcs[k].len
      all_goals
        have H2 := hide h2
        clear h2
        go_enter Try.func34, Try.ntmps34
        go_wp2_with fail
        go_quiet ((first | (go_at_call_of 35 (Value.int IntKind.i64 at'); exact Calls.quiet_of_same (l1in_b H2.out _)) | (go_at_call 35; exact Calls.quiet_of_same (l1in_b H1.out _))))
        go_wp2_with fail
        go_ret
        exact ⟨ret_b (by simp [spotP, H1.out, HLEN.out, H2.out]), below_drewN hbW _⟩
    · by_cases hw2 : way = -1
      · subst hw2
        cases h2 : inR at' 0 N.pcs[k].len
        all_goals
          have H2 := hide h2
          clear h2
          go_enter Try.func34, Try.ntmps34
          go_wp2_with fail
          go_quiet ((first | (go_at_call_of 35 (Value.int IntKind.i64 at'); exact Calls.quiet_of_same (l1in_b H2.out _)) | (go_at_call 35; exact Calls.quiet_of_same (l1in_b H1.out _))))
          go_wp2_with fail
          go_ret
          exact ⟨ret_b (by simp [spotP, H1.out, HLEN.out, H2.out]), below_drewN hbW _⟩
      · have q1 : (way == 1) = false := by rw [beq_eq_false_iff_ne]; exact hw1
        have q2 : (way == -1) = false := by rw [beq_eq_false_iff_ne]; exact hw2
        clear hw1 hw2
        have HQ1 := hide q1
        have HQ2 := hide q2
        go_enter Try.func34, Try.ntmps34
        go_wp2_with fail
        go_quiet ((go_at_call 35; exact Calls.quiet_of_same (l1in_b H1.out _)))
        go_wp2_with fail
        go_ret
        exact ⟨ret_b (by simp [spotP, H1.out, HQ1.out, HQ2.out]), below_drewN hbW _⟩
end Go.Proofs.Yteapmddadieohaa

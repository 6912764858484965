import Derived.Test.YteapmddadieohaaMxAA
import Derived.Test.YteapmddadieohaaMxAC
import Derived.Deep.Light
import Derived.Test.YteapmddadieohaaTo
namespace Go.Proofs.Yteapmddadieohaa
open Go.RowKit
set_option maxHeartbeats 400000

theorem ret_b {a b : Bool} (h : a = b) : Ending.returned (.bool a) = .returned (.bool b) := by rw [h]

theorem l1in_any (x a b : Int) (w : World) : Calls Try.prog 35 #[.int .i64 x, .int .i64 a, .int .i64 b] w fun e w' =>
    e = .returned (.bool (inR x a b)) ∧ w = w' := by
  by_cases h : a ≤ x
  all_goals
    go_enter Try.func35, Try.ntmps35
    go_wp2
    go_ret
    exact ⟨ret_b (by simp [inR]; try omega), rfl⟩

theorem l1name_any (s : ByteArray) (w : World) (hs : s.size ≤ 1048576) : Calls Try.prog 57 #[.string s] w fun e w' =>
    e = .returned (.bool (nm s)) ∧ w = w' := by
  go_enter Try.func57, Try.ntmps57
  go_wp2
  go_loop [3] (fun i => ∃ k : Nat, k ≤ s.size ∧ i = .int .i64 k ∧ (∀ j (hj : j < s.size), j < k → byteOk s[j] = true)) (fun i => s.size - (intOf i).toNat)
  case atStart => exact ⟨0, Nat.zero_le _, rfl, by omega⟩
  case round =>
    obtain ⟨k, hk, rfl, hall⟩ := hrel
    have HA := hide hall
    clear hall
    by_cases hlt : k < s.size
    · go_wp2
      all_goals first
        | (go_ret
           refine ⟨ret_b (nm_bad s k hlt ?_).symm, rfl⟩
           go_light
           refine byteOk_false ?_
           simp at *
           omega)
        | (refine ⟨⟨k + 1, by omega, by go_num, ?_⟩, by simp [intOf]; omega⟩
           intro j hj hjk
           by_cases e : j = k
           · subst e
             go_light
             refine byteOk_true ?_
             simp at *
             omega
           · exact HA.out j hj (by omega))
    · have hn := nm_all s (fun j hj => HA.out j hj (by omega))
      have HN := hide hn
      clear hn
      go_wp2
      all_goals go_ret
      all_goals refine ⟨ret_b ?_, rfl⟩
      all_goals rw [HN.out]
      all_goals go_light
      all_goals (rw [Bool.eq_iff_iff]; simp; omega)
end Go.Proofs.Yteapmddadieohaa

namespace Go.Proofs.Yteapmddadieohaa
open Go.RowKit
set_option maxHeartbeats 400000

theorem l1end_any (a a' : Option Addr) (n m cap cap' : Nat) (p s : Int) (w : World) (hn : n ≤ 1048576) :
    Calls Try.prog 66 #[.agg #[.slice a n cap, .slice a' m cap'], .agg #[.int .i64 p, .int .i64 s]] w fun e w' =>
    e = .returned (.bool (endOk n (p, s))) ∧ Below w.heap.size w w' := by
  cases h : inR p 0 ((n : Int) - 1)
  · have H := hide h
    clear h
    go_enter Try.func66, Try.ntmps66
    go_wp2_with fail
    refine (l1in_any _ _ _ _).mono ?_
    rintro e w1 ⟨rfl, rfl⟩
    rw [H.out]
    go_wp2_with fail
    go_ret
    exact ⟨ret_b (by simp [endOk, H.out]), ((Below.refl _ _).alloc (Nat.le_refl _) _).alloc (by simp) _⟩
  · have H := hide h
    clear h
    go_enter Try.func66, Try.ntmps66
    go_wp2_with fail
    refine (l1in_any _ _ _ _).mono ?_
    rintro e w1 ⟨rfl, rfl⟩
    rw [H.out]
    go_wp2_with fail
    refine (l1in_any _ _ _ _).mono ?_
    rintro e w1 ⟨rfl, rfl⟩
    go_wp2_with fail
    go_ret
    exact ⟨ret_b (by simp [endOk, H.out]), ((Below.refl _ _).alloc (Nat.le_refl _) _).alloc (by simp) _⟩

theorem uses_le (js : List Jt) (e : Int × Int) (h : ∀ j ∈ js, j.ends.length ≤ 1048576) : uses js e ≤ js.length * 1048576 := by
  induction js with
  | nil => simp [uses, allEnds]
  | cons j js ih =>
    have h1 := ih (fun x hx => h x (List.mem_cons_of_mem _ hx))
    have h2 := h j (List.mem_cons_self ..)
    have h3 := List.count_le_length (a := e) (l := j.ends)
    simp only [uses, allEnds, List.flatMap_cons, List.count_append, List.length_cons] at *
    omega

theorem uses_snoc (js : List Jt) (k : Nat) (hk : k < js.length) (e : Int × Int) : uses (js.take (k + 1)) e = uses (js.take k) e + js[k].ends.count e := by
  unfold uses allEnds
  rw [List.take_succ_eq_append_getElem hk, List.flatMap_append, List.count_append, List.flatMap_singleton]

theorem count_snoc (es : List (Int × Int)) (k : Nat) (hk : k < es.length) (e : Int × Int) : (es.take (k + 1)).count e = (es.take k).count e + if es[k] = e then 1 else 0 := by
  rw [List.take_succ_eq_append_getElem hk, List.count_append, List.count_singleton]
  simp

theorem l1uses_any (a a' : Option Addr) (n cap cap' : Nat) (js : List Jt) (p s : Int) (w : World) (hn : js.length ≤ 1048576) (hm : ∀ j ∈ js, j.ends.length ≤ 1048576) (hj : JtsAt w a' js) :
    Calls Try.prog 59 #[.agg #[.slice a n cap, .slice a' js.length cap'], .agg #[.int .i64 p, .int .i64 s]] w fun e w' =>
    e = .returned (.int .i64 (uses js (p, s))) ∧ Below w.heap.size w w' := by
  have HJ := hide hj
  have HM := hide hm
  clear hj hm
  go_enter Try.func59, Try.ntmps59
  go_wp2
  have hbW : Below w.heap.size w ((w.alloc (.cells #[.slice a n cap, .slice a' js.length cap'] 26)).alloc (.cells #[.int .i64 p, .int .i64 s] 59)) := ((Below.refl _ _).alloc (Nat.le_refl _) _).alloc (by simp) _
  go_loopw [5, 7, 9, 13] (fun q _ _ i wr => ∃ (k : Nat) (c : Nat), k ≤ js.length ∧ i = .int .i64 k ∧ q = .int .i64 c ∧ Hid (c = uses (js.take k) (p, s)) ∧ wr.cell? ⟨w.heap.size + 1, 0, none⟩ = some (.int .i64 p) ∧ wr.cell? ⟨w.heap.size + 1, 1, none⟩ = some (.int .i64 s) ∧ w.heap.size + 2 ≤ wr.heap.size ∧ Below w.heap.size w wr) (fun _ _ _ i _ => js.length - (intOf i).toNat)
  case atStart => exact ⟨0, 0, Nat.zero_le _, rfl, rfl, rfl, by simp [go_sem], by simp [go_sem], by simp, hbW⟩
  case round =>
    obtain ⟨k, c, hk, rfl, rfl, hc, e0, e1, hz, hb⟩ := hrel
    by_cases hlt : k < js.length
    · obtain ⟨b, off, ea, ec, rfl, c0, c1, c2, ce⟩ := (JtsAt.later HJ.out hb) k hlt
      have CE := hide ce
      have hm := HM.out _ (List.getElem_mem hlt)
      have hcb : c ≤ k * 1048576 := by
        rw [hc.out]
        have := uses_le (js.take k) (p, s) (fun j hj => HM.out j (List.mem_of_mem_take hj))
        rw [List.length_take_of_le hk] at this
        exact this
      clear ce
      go_wp2
      have hbA : Below wr.heap.size wr (wr.alloc (Obj.cells #[Value.int IntKind.i64 js[k].kind, Value.string js[k].name, Value.slice ea js[k].ends.length ec] 53)) := (Below.refl _ _).alloc (Nat.le_refl _) _
      go_loopw [5, 20] (fun q i wi => ∃ (t : Nat) (c' : Nat), t ≤ js[k].ends.length ∧ i = .int .i64 t ∧ q = .int .i64 c' ∧ Hid (c' = c + (js[k].ends.take t).count (p, s)) ∧ Below wr.heap.size wr wi) (fun _ i _ => js[k].ends.length - (intOf i).toNat)
      case atStart => exact ⟨0, c, Nat.zero_le _, rfl, rfl, by simp [Hid], hbA⟩
      case round =>
        obtain ⟨t, c', ht, rfl, rfl, hc', hbi⟩ := hrel
        have hcb' : c' ≤ k * 1048576 + 1048576 := by
          rw [hc'.out]
          have := List.count_le_length (a := (p, s)) (l := js[k].ends.take t)
          rw [List.length_take_of_le ht] at this
          omega
        have e0' := cell_keep hbi (by omega) e0
        have e1' := cell_keep hbi (by omega) e1
        by_cases hti : t < js[k].ends.length
        · obtain ⟨b2, off2, rfl, d0, d1⟩ := (EndsAt.later CE.out hbi) t hti
          have hzi : w.heap.size + 1 < wr.heap.size := Nat.lt_of_lt_of_le (Nat.lt_of_lt_of_le (by omega) hz) hbi.size
          have hcs := hide (count_snoc js[k].ends t hti (p, s))
          go_wp2
          · refine ⟨⟨t + 1, c' + 1, by omega, by go_num, by go_num, ?_, hbi.alloc hbi.size _⟩, by simp [intOf]; omega⟩
            show c' + 1 = _
            rw [hcs.out, if_pos (Prod.ext ‹_› ‹_›), hc'.out]; omega
          · refine ⟨⟨t + 1, c', by omega, by go_num, rfl, ?_, hbi.alloc hbi.size _⟩, by simp [intOf]; omega⟩
            show c' = _
            rw [hcs.out, if_neg (fun h => ‹¬ _› (congrArg Prod.snd h)), hc'.out]; omega
          · refine ⟨⟨t + 1, c', by omega, by go_num, rfl, ?_, hbi.alloc hbi.size _⟩, by simp [intOf]; omega⟩
            show c' = _
            rw [hcs.out, if_neg (fun h => ‹¬ _› (congrArg Prod.fst h)), hc'.out]; omega
        · go_wp2
          go_roundw
          case rel =>
            refine ⟨k + 1, c', by omega, by go_num, rfl, ?_, e0', e1', Nat.le_trans hz hbi.size, hb.trans (hbi.mono hb.size)⟩
            rw [uses_snoc js k hlt, hc'.out, hc.out, List.take_of_length_le (l := js[k].ends) (by omega)]
            rfl
          case measure => simp [intOf]; omega
    · go_wp2
      go_ret
      refine ⟨?_, hb⟩
      rw [hc.out, List.take_of_length_le (by omega)]
      rfl
end Go.Proofs.Yteapmddadieohaa

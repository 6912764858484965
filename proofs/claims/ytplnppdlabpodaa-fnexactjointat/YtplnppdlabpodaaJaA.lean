import Derived.Test.YtplnppdlabpodaaJaO
namespace Go.Proofs.Ytplnppdlabpodaa
open Go.RowKit
set_option maxHeartbeats 1000000

theorem l1at_any (a a' : Option Addr) (n cap cap' : Nat) (js : List Jt) (p s : Int) (w : World) (hn : js.length ≤ 1048576) (hm : ∀ j ∈ js, j.ends.length ≤ 1048576) (hj : JtsAt w a' js) :
    Calls Try.prog 80 #[.agg #[.slice a n cap, .slice a' js.length cap'], .agg #[.int .i64 p, .int .i64 s]] w fun e w' =>
    ∃ x y : Int, e = .returned (.tuple #[.int .i64 x, .int .i64 y]) ∧ ((∃ j i : Nat, x = j ∧ y = i ∧ At js (p, s) j i) ∨ (∀ j i, ¬ At js (p, s) j i)) ∧ Below w.heap.size w w' := by
  have HJ := hide hj
  have HM := hide hm
  clear hj hm
  go_enter Try.func80, Try.ntmps80
  go_wp2
  have hbW : Below w.heap.size w ((w.alloc (.cells #[.slice a n cap, .slice a' js.length cap'] 33)).alloc (.cells #[.int .i64 p, .int .i64 s] 41)) := ((Below.refl _ _).alloc (Nat.le_refl _) _).alloc (by simp) _
  go_loopw [6, 7, 8, 9, 13] (fun _ _ _ _ i wr => ∃ (k : Nat), k ≤ js.length ∧ i = .int .i64 k ∧ Hid (∀ j i, j < k → ¬ At js (p, s) j i) ∧ wr.cell? ⟨w.heap.size + 1, 0, none⟩ = some (.int .i64 p) ∧ wr.cell? ⟨w.heap.size + 1, 1, none⟩ = some (.int .i64 s) ∧ Below w.heap.size w wr) (fun _ _ _ _ i _ => js.length - (intOf i).toNat)
  case atStart => exact ⟨0, Nat.zero_le _, rfl, (fun j i hj => by omega), by simp [go_sem], by simp [go_sem], hbW⟩
  case round =>
    obtain ⟨k, hk, rfl, hno, e0, e1, hb⟩ := hrel
    have hz := cell_lt e0
    by_cases hlt : k < js.length
    · obtain ⟨b, off, ea, ec, rfl, c0, c1, c2, ce⟩ := (JtsAt.later HJ.out hb) k hlt
      have CE := hide ce
      have hm := HM.out _ (List.getElem_mem hlt)
      clear ce
      go_wp2
      have hbA : Below wr.heap.size wr (wr.alloc (Obj.cells #[Value.int IntKind.i64 js[k].kind, Value.string js[k].name, Value.slice ea js[k].ends.length ec] 110)) := (Below.refl _ _).alloc (Nat.le_refl _) _
      go_loopw [8, 9, 21] (fun _ _ i wi => ∃ (t : Nat), t ≤ js[k].ends.length ∧ i = .int .i64 t ∧ Hid (∀ i (_ : i < t) (hi : i < js[k].ends.length), js[k].ends[i] ≠ (p, s)) ∧ Below wr.heap.size wr wi) (fun _ _ i _ => js[k].ends.length - (intOf i).toNat)
      case atStart => exact ⟨0, Nat.zero_le _, rfl, (fun i hi => by omega), hbA⟩
      case round =>
        obtain ⟨t, ht, rfl, hno2, hbi⟩ := hrel
        have e0' := cell_keep hbi (by omega) e0
        have e1' := cell_keep hbi (by omega) e1
        have hB := hb.trans (hbi.mono hb.size)
        by_cases hti : t < js[k].ends.length
        · obtain ⟨b2, off2, rfl, d0, d1⟩ := (EndsAt.later CE.out hbi) t hti
          have hzi : w.heap.size + 1 < wr.heap.size := Nat.lt_of_lt_of_le (by omega) hbi.size
          go_wp2
          · go_ret2
            refine ⟨k, t, rfl, Or.inl ⟨k, t, rfl, rfl, hlt, hti, Prod.ext ‹_› ‹_›⟩, hB.alloc hB.size _⟩
          · refine ⟨⟨t + 1, by omega, by go_num, ?_, hbi.alloc hbi.size _⟩, by simp [intOf]; omega⟩
            intro i hi hi'
            by_cases e : i = t
            · subst e; exact fun h => ‹¬ _› (congrArg Prod.snd h)
            · exact hno2.out i (by omega) hi'
          · refine ⟨⟨t + 1, by omega, by go_num, ?_, hbi.alloc hbi.size _⟩, by simp [intOf]; omega⟩
            intro i hi hi'
            by_cases e : i = t
            · subst e; exact fun h => ‹¬ _› (congrArg Prod.fst h)
            · exact hno2.out i (by omega) hi'
        · go_wp2
          go_roundw
          case rel =>
            refine ⟨k + 1, by omega, by go_num, ?_, e0', e1', hB⟩
            intro j i hj hat
            by_cases e : j = k
            · subst e
              obtain ⟨_, hi, he⟩ := hat
              exact hno2.out i (by omega) hi he
            · exact hno.out j i (by omega) hat
          case measure => simp [intOf]; omega
    · go_wp2
      go_ret2
      refine ⟨-1, -1, rfl, Or.inr ?_, hb⟩
      intro j i hat
      have hj := hat.1
      exact hno.out j i (by omega) hat
end Go.Proofs.Ytplnppdlabpodaa

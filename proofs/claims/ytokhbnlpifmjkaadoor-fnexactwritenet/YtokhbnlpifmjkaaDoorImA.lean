import Derived.Test.YtokhbnlpifmjkaaDoorNmI
import Derived.Test.YtokhbnlpifmjkaaDoorTo
import Derived.Test.YtokhbnlpifmjkaaDoorMp
namespace Go.Proofs.YtokhbnlpifmjkaaDoor
open Go.RowKit
set_option maxHeartbeats 1000000

theorem sizeOk_any (a a' : Option Addr) (n m cap cap' : Nat) (w : World) :
    Calls Tryd.prog 27 #[.agg #[.slice a n cap, .slice a' m cap']] w fun e w' =>
    e = .returned (.bool (inR n 1 100 && decide ((m : Int) ≤ 120))) ∧ Below w.heap.size w w' := by
  cases h : inR (n : Int) 1 100
  all_goals
    have H := hide h
    clear h
    go_enter Tryd.func27, Tryd.ntmps27
    go_wp2_with fail
    refine (inRange_any _ _ _ _).mono ?_
    rintro e w1 ⟨rfl, rfl⟩
    rw [H.out]
    go_wp2_with fail
    go_ret
    exact ⟨ret_b (by simp), (Below.refl _ _).alloc (Nat.le_refl _) _⟩

theorem pieceOk_any (p : Pc) (w : World) (hs : p.name.size ≤ 1048576) :
    Calls Tryd.prog 47 #[.agg #[.string p.name, .int .i64 p.len, .int .i64 p.speed, .int .i64 p.brake]] w fun e w' =>
    e = .returned (.bool p.ok) ∧ Below w.heap.size w w' := by
  cases h1 : nm p.name
  · have H1 := hide h1
    clear h1
    go_enter Tryd.func47, Tryd.ntmps47
    go_wp2_with fail
    refine (nameOk_any p.name _ hs).mono ?_
    rintro e w1 ⟨rfl, rfl⟩
    rw [H1.out]
    go_wp2_with fail
    go_ret
    exact ⟨ret_b (by simp [Pc.ok, H1.out]), (Below.refl _ _).alloc (Nat.le_refl _) _⟩
  have H1 := hide h1
  clear h1
  cases h2 : inR p.len 1 10000000
  · have H2 := hide h2
    clear h2
    go_enter Tryd.func47, Tryd.ntmps47
    go_wp2_with fail
    refine (nameOk_any p.name _ hs).mono ?_
    rintro e w1 ⟨rfl, rfl⟩
    rw [H1.out]
    go_wp2_with fail
    refine (inRange_any _ _ _ _).mono ?_
    rintro e w1 ⟨rfl, rfl⟩
    rw [H2.out]
    go_wp2_with fail
    go_ret
    exact ⟨ret_b (by simp [Pc.ok, H2.out]), (Below.refl _ _).alloc (Nat.le_refl _) _⟩
  have H2 := hide h2
  clear h2
  cases h3 : inR p.speed 1 10000
  · have H3 := hide h3
    clear h3
    go_enter Tryd.func47, Tryd.ntmps47
    go_wp2_with fail
    refine (nameOk_any p.name _ hs).mono ?_
    rintro e w1 ⟨rfl, rfl⟩
    rw [H1.out]
    go_wp2_with fail
    refine (inRange_any _ _ _ _).mono ?_
    rintro e w1 ⟨rfl, rfl⟩
    rw [H2.out]
    go_wp2_with fail
    refine (inRange_any _ _ _ _).mono ?_
    rintro e w1 ⟨rfl, rfl⟩
    rw [H3.out]
    go_wp2_with fail
    go_ret
    exact ⟨ret_b (by simp [Pc.ok, H3.out]), (Below.refl _ _).alloc (Nat.le_refl _) _⟩
  have H3 := hide h3
  clear h3
  go_enter Tryd.func47, Tryd.ntmps47
  go_wp2_with fail
  refine (nameOk_any p.name _ hs).mono ?_
  rintro e w1 ⟨rfl, rfl⟩
  rw [H1.out]
  go_wp2_with fail
  refine (inRange_any _ _ _ _).mono ?_
  rintro e w1 ⟨rfl, rfl⟩
  rw [H2.out]
  go_wp2_with fail
  refine (inRange_any _ _ _ _).mono ?_
  rintro e w1 ⟨rfl, rfl⟩
  rw [H3.out]
  go_wp2_with fail
  refine (inRange_any _ _ _ _).mono ?_
  rintro e w1 ⟨rfl, rfl⟩
  go_wp2_with fail
  go_ret
  exact ⟨ret_b (by simp [Pc.ok, H1.out, H2.out, H3.out]), (Below.refl _ _).alloc (Nat.le_refl _) _⟩

theorem seen_pcs (ps : List Pc) (k : Nat) (hk : k < ps.length) : seenI ((ps.take k).map (·.name.data.toList)) ps[k].name.data.toList = if (ps.take k).any (fun q => q.name.toList == ps[k].name.toList) then 1 else 0 := by
  unfold seenI
  congr 1
  rw [eq_iff_iff, List.contains_iff_exists_mem_beq, List.any_eq_true]
  simp only [List.mem_map, Lib.toList_data]
  constructor
  · rintro ⟨x, ⟨q, hq, rfl⟩, h⟩
    exact ⟨q, hq, by simpa using (beq_iff_eq.1 h).symm⟩
  · rintro ⟨q, hq, h⟩
    exact ⟨_, ⟨q, hq, rfl⟩, by simpa using (beq_iff_eq.1 h).symm⟩

theorem wrongPiece_any (a : Option Addr) (ps : List Pc) (cap : Nat) (w : World) (hn : ps.length ≤ 1048576) (hs : ∀ p ∈ ps, p.name.size ≤ 1048576) (hp : PcsAt w a ps) :
    Calls Tryd.prog 28 #[.slice a ps.length cap] w fun e w' =>
    e = .returned (.int .i64 (firstI (pcBad ps) ps.length)) ∧ Below w.heap.size w w' := by
  have HP := hide hp
  have HS := hide hs
  clear hp hs
  have hmm := @run_makeMap Tryd.prog
  go_enter Tryd.func28, Tryd.ntmps28
  go_wp2_with fail
  go_loopw [4, 5, 9] (fun _ _ i wr => ∃ (k : Nat), k ≤ ps.length ∧ i = .int .i64 k ∧ (∀ j, j < k → pcBad ps j = false) ∧ Hid (SI wr w.heap.size k ((ps.take k).map (·.name.data.toList))) ∧ Below w.heap.size w wr) (fun _ _ i _ => ps.length - (intOf i).toNat)
  case atStart => exact ⟨0, Nat.zero_le _, rfl, by intro j hj; omega, SI.made w, (Below.refl _ _).alloc (Nat.le_refl _) _⟩
  case round =>
    obtain ⟨k, hk, rfl, hall, hSI, hb⟩ := hrel
    have HA := hide hall
    clear hall hmm
    by_cases hlt : k < ps.length
    · obtain ⟨b, off, rfl, c0, c1, c2, c3⟩ := (PcsAt.later HP.out hb) k hlt
      have hblt := cell_lt c0
      have hsz := HS.out _ (List.getElem_mem hlt)
      go_wp2_with fail
      refine (pieceOk_any ps[k] _ hsz).mono ?_
      rintro e w1 ⟨rfl, hb1⟩
      have hbA : Below wr.heap.size wr w1 := ((Below.refl _ _).alloc (Nat.le_refl _) _).trans (hb1.mono (by simp))
      have hb2 := hb.trans (hbA.mono hb.size)
      have d0 := box_cell hb1 0 _ rfl
      have hSI1 := hSI.out.of_block (hbA.block _ hSI.out.lt)
      have hl := hSI1.look ps[k].name (by unfold maxLen; omega)
      rw [seen_pcs ps k hlt] at hl
      cases hok : ps[k].ok
      · have HOK := hide hok
        clear hok hl hSI1
        go_wp2_with fail
        go_ret
        exact ⟨ret_i (firstI_some hlt (by rw [pcBad_eq hlt, HOK.out]; rfl) HA.out).symm, hb2⟩
      · have HOK := hide hok
        clear hok
        cases hany : (ps.take k).any (fun q => q.name.toList == ps[k].name.toList)
        · rw [hany] at hl
          have HN := hide hany
          clear hany
          obtain ⟨w2, hput, hSI2, hg⟩ := hSI1.put (by unfold maxLen; omega) ps[k].name (by unfold maxLen; omega)
          have HSI2 := hide hSI2
          have HG := hide hg
          clear hSI2 hg hSI1
          go_wp2_with fail
          go_roundw
          case rel =>
            refine ⟨k + 1, by omega, by go_num, ?_, ?_, hb2.grown HG.out hb2.size (fun j hj => by cases hj; exact Nat.le_refl _)⟩
            · intro j hj
              by_cases e : j = k
              · subst e; rw [pcBad_eq hlt, HN.out, HOK.out]; rfl
              · exact HA.out j (by omega)
            · show SI _ _ _ _
              rw [List.take_succ_eq_append_getElem hlt, List.map_append]
              exact HSI2.out
          case measure => simp [intOf]; omega
        · rw [hany] at hl
          have HN := hide hany
          clear hany hSI1
          go_wp2_with fail
          go_ret
          exact ⟨ret_i (firstI_some hlt (by rw [pcBad_eq hlt, HN.out]; simp) HA.out).symm, hb2⟩
    · go_wp2_with fail
      go_ret
      exact ⟨ret_i (firstI_none (fun j hj => HA.out j (by omega))).symm, hb⟩
end Go.Proofs.YtokhbnlpifmjkaaDoor

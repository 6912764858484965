import Derived.Test.YtokhbnlpifmjkaaDoorImD
namespace Go.Proofs.YtokhbnlpifmjkaaDoor
open Go.RowKit
set_option maxHeartbeats 1000000

theorem SI.mono {w : World} {b n n' seen} (h : SI w b n seen) (hn : n ≤ n') : SI w b n' seen := by
  obtain ⟨D, h, h2⟩ := h
  exact ⟨D, h.mono hn, h2⟩

theorem jtBad4_bad {js : List Jt} {k : Nat} (hk : k < js.length) (h : jnOk js[k] = false) : jtBad4 js k = true := by
  rw [jtBad4_eq hk]
  unfold jnOk at h
  by_cases h3 : js[k].kind < 3
  · rw [if_pos h3] at h ⊢; rw [h]; rfl
  · rw [if_neg h3] at h ⊢; rw [h]; rfl

theorem wrongJointName_any (a : Option Addr) (cap n : Nat) (js : List Jt) (w : World) (hl : js.length ≤ 1048576) (hm : ∀ j ∈ js, j.name.size ≤ 1048576 ∧ j.ends.length ≤ 1048576) (h3 : ∀ k, k < js.length → jtBad3 n js k = false) (hj : JtsAt w a js) :
    Calls Tryd.prog 30 #[.slice a js.length cap] w fun e w' =>
    e = .returned (.int .i64 (firstI (jtBad4 js) js.length)) ∧ Below w.heap.size w w' := by
  have HJ := hide hj
  have HM := hide hm
  have H3 := hide h3
  clear hj hm h3
  have hmm := @run_makeMap Tryd.prog
  go_enter Tryd.func30, Tryd.ntmps30
  go_wp2_with fail
  go_loopw [4, 5, 9] (fun _ _ i wr => ∃ (k : Nat), k ≤ js.length ∧ i = .int .i64 k ∧ (∀ j, j < k → jtBad4 js j = false) ∧ Hid (SI wr w.heap.size k (seenJ js k)) ∧ Below w.heap.size w wr) (fun _ _ i _ => js.length - (intOf i).toNat)
  case atStart => exact ⟨0, Nat.zero_le _, rfl, by intro j hj; omega, SI.made w, (Below.refl _ _).alloc (Nat.le_refl _) _⟩
  case round =>
    obtain ⟨k, hk, rfl, hall, hSI, hb⟩ := hrel
    have HA := hide hall
    clear hall hmm
    by_cases hlt : k < js.length
    · obtain ⟨b, off, ea, ec, rfl, c0, c1, c2, ce⟩ := (JtsAt.later HJ.out hb) k hlt
      have hblt := cell_lt c0
      have hm := HM.out _ (List.getElem_mem hlt)
      have hkd := jb3_kind (n := n) (by rw [← jtBad3_jb3 hlt]; exact H3.out k hlt)
      clear ce
      go_wp2_with fail
      refine (jointNameOk_any js[k] ea _ ec _ hkd hm.1).mono ?_
      rintro e w1 ⟨rfl, hb1⟩
      have hbA : Below wr.heap.size wr w1 := ((Below.refl _ _).alloc (Nat.le_refl _) _).trans (hb1.mono (by simp))
      have hb2 := hb.trans (hbA.mono hb.size)
      have d1 := box_cell hb1 1 _ rfl
      have hSI1 := hSI.out.of_block (hbA.block _ hSI.out.lt)
      cases hok : jnOk js[k]
      · have HOK := hide hok
        clear hok hSI1
        go_wp2_with fail
        go_ret
        exact ⟨ret_i (firstI_some hlt (jtBad4_bad hlt HOK.out) HA.out).symm, hb2⟩
      · have HOK := hide hok
        clear hok
        by_cases hk3 : js[k].kind < 3
        · have hem : js[k].name.toList.isEmpty = true := by have := HOK.out; unfold jnOk at this; rwa [if_pos hk3] at this
          have hl := hSI1.look js[k].name (by unfold maxLen; omega)
          rw [seenJ_empty js k js[k].name hem] at hl
          have hem' : (!js[k].name.toList.isEmpty) = false := by rw [hem]; rfl
          have HEM := hide hem
          have HS1 := hide hSI1
          clear hem hSI1
          go_wp2_with fail
          go_roundw
          case rel =>
            refine ⟨k + 1, by omega, by go_num, ?_, ?_, hb2⟩
            · intro j hj
              by_cases e : j = k
              · subst e; rw [jtBad4_eq hlt, if_pos hk3, HEM.out]; rfl
              · exact HA.out j (by omega)
            · show SI _ _ _ _
              rw [seenJ_succ js k hlt, if_pos HEM.out]
              exact HS1.out.mono (by omega)
          case measure => simp [intOf]; omega
        · have hnm : nm js[k].name = true := by have := HOK.out; unfold jnOk at this; rwa [if_neg hk3] at this
          have hl := hSI1.look js[k].name (by unfold maxLen; omega)
          rw [seenJ_named js k js[k].name hnm] at hl
          have hne := nm_nonempty hnm
          have hne' : (!js[k].name.toList.isEmpty) = true := by rw [hne]; rfl
          have HNE := hide hne
          have HNM := hide hnm
          clear hne hnm
          cases hany : (js.take k).any (fun q => q.name.toList == js[k].name.toList)
          · rw [hany] at hl
            have HN := hide hany
            clear hany
            obtain ⟨w2, hput, hSI2, hg⟩ := hSI1.put (by unfold maxLen; omega) js[k].name (by unfold maxLen; omega)
            have HSI2 := hide hSI2
            have HG := hide hg
            clear hSI2 hg hSI1
            go_wp2_with fail
            go_roundw
            case rel =>
              refine ⟨k + 1, by omega, by go_num, ?_, ?_, hb2.grown HG.out hb2.size (fun j hj => by cases hj; exact Nat.le_refl _)⟩
              · intro j hj
                by_cases e : j = k
                · subst e; rw [jtBad4_eq hlt, if_neg (by omega), HN.out, HNM.out]; rfl
                · exact HA.out j (by omega)
              · show SI _ _ _ _
                rw [seenJ_succ js k hlt, if_neg (by rw [HNE.out]; simp)]
                exact HSI2.out
            case measure => simp [intOf]; omega
          · rw [hany] at hl
            have HN := hide hany
            clear hany hSI1
            go_wp2_with fail
            go_ret
            exact ⟨ret_i (firstI_some hlt (by rw [jtBad4_eq hlt, if_neg (show ¬ js[k].kind < 3 by omega), HN.out]; simp) HA.out).symm, hb2⟩
    · go_wp2_with fail
      go_ret
      exact ⟨ret_i (firstI_none (fun j hj => HA.out j (by omega))).symm, hb⟩

/-- What seatsOf has after the ends in the list: the last place of each and how often it stands. -/
def seatAdd (g : Int × Int → Option (Int × Int × Int)) (e : Int × Int) (j i : Int) : Int × Int → Option (Int × Int × Int) :=
  fun x => if x = e then some (j, i, ((g e).getD (0, 0, 0)).2.2 + 1) else g x
def seatEnds (g : Int × Int → Option (Int × Int × Int)) (j : Int) (es : List (Int × Int)) : Nat → (Int × Int → Option (Int × Int × Int))
  | 0 => g
  | i + 1 => match es[i]? with
    | some e => seatAdd (seatEnds g j es i) e j i
    | none => seatEnds g j es i
def seatTo (js : List Jt) : Nat → (Int × Int → Option (Int × Int × Int))
  | 0 => fun _ => none
  | k + 1 => match js[k]? with
    | some j => seatEnds (seatTo js k) k j.ends j.ends.length
    | none => seatTo js k
end Go.Proofs.YtokhbnlpifmjkaaDoor

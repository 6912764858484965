/- impl.inOrder, impl.Touch. Own work. -/
import Derived.Test.YtplnppdlabpodaaTcF
namespace Go.Proofs.Ytplnppdlabpodaa
open Go.RowKit Go.Sort Go.Proofs Go.Lib
set_option maxHeartbeats 2000000

theorem implInOrder_nil (ps : List Prt) (h0 : ps.length = 0) (cap : Nat) (w : World) : Calls Try.prog 96 #[.slice none ps.length cap] w fun e w' => ∃ (z : Option Addr) (c : Nat) (qs : List Prt), e = .returned (.slice z qs.length c) ∧ qs.length ≤ c ∧ c ≤ maxLen ∧ ps.Perm qs ∧ Sorted qs ∧ PartsAt w' z qs ∧ Below w.heap.size w w' := by
  obtain rfl := List.eq_nil_of_length_eq_zero h0
  have hcl := AnyE.slices_Clone_nil Try.cloneP 0 cap w
  change Calls Try.prog 123 _ _ _ at hcl
  have HCL := hide hcl
  clear hcl h0
  have eg : ∀ args w, (callFunc 125 args).run Try.prog w = .ok (.enter 125 args) w := enters_of Try.func125 (by kernel_rfl) rfl
  have hso := AnyF.slices_SortFunc_none Try.sortP none 0 (.func (.func 125) #[] #[]) w
  change Calls Try.prog 124 _ _ _ at hso
  have HSO := hide hso
  clear hso eg
  go_enter Try.func96, Try.ntmps96
  go_wp2_with fail
  refine HCL.out.mono ?_
  rintro e w1 ⟨rfl, rfl⟩
  go_wp2_with fail
  refine HSO.out.mono ?_
  rintro e w2 ⟨rfl, rfl⟩
  go_wp2_with fail
  go_ret
  exact ⟨none, 0, [], rfl, by simp, by simp, .refl _, fun i j hi => by simp at hi, fun k hk => by simp at hk, Below.refl _ _⟩

theorem implInOrder_any : InOrderDone := by
  intro z ps cap w hz hl hp
  rcases hz with ⟨b, o, rfl⟩ | ⟨rfl, h0⟩
  rotate_left
  · exact implInOrder_nil ps h0 cap w
  obtain ⟨i0, hi0, hz3⟩ : ∃ i0, Try.prog.info? 119 = some i0 ∧ (i0.zero, i0.size, i0.bytes) = (some (.agg #[.int .i64 0, .int .i64 0, .int .i64 0]), 3, 24) := by
    have := infoPart
    cases hh : Try.prog.info? 119 with
    | none => rw [hh] at this; simp at this
    | some i0 => rw [hh] at this; exact ⟨i0, rfl, by simpa using this⟩
  have hcl := AnyE.slices_Clone Try.cloneP i0 (.agg #[.int .i64 0, .int .i64 0, .int .i64 0]) 3 24 hi0 (by simpa using congrArg Prod.fst hz3) (by simpa using congrArg (fun t => t.2.1) hz3) (by simpa using congrArg (fun t => t.2.2) hz3) rfl (by omega) Try.sizeOf119 b o ps.length cap (partCells ps) w (partCells_len ps) (by unfold maxLen; omega) (by omega) (cells_parts hp) (partCells_one ps)
  change Calls Try.prog 123 _ _ _ at hcl
  have HCL := hide hcl
  clear hcl hi0 hz3 hp
  go_enter Try.func96, Try.ntmps96
  go_wp2_with fail
  refine HCL.out.mono ?_
  rintro e w1 ⟨v', rfl, how, hne, hb1⟩
  rcases how.2 with ⟨hv, _⟩ | ⟨g, c, cur, rfl, hbg, hg, hnc, hcm, hsz, htk⟩
  · exact absurd hv hne
  have hlt : g < w1.heap.size := by
    rcases Nat.lt_or_ge g w1.heap.size with h | h
    · exact h
    · rw [Array.getElem?_eq_none h] at hg; cases hg
  have eg : ∀ args w, (callFunc 125 args).run Try.prog w = .ok (.enter 125 args) w := enters_of Try.func125 (by kernel_rfl) rfl
  have hso := AnyQ.slices_SortFunc Try.sortP 3 Try.isAgg119 Try.sizeOf119 encP (fun _ => rfl) (fun x v hv => by simp [encP] at hv; rcases hv with rfl | rfl | rfl <;> rfl) byP swoByP 125 #[] g 0 c ps.toArray w1 eg (cmpLaysP g 0 ps.toArray.size w1) (holds_of_owns hg htk) hlt (by simp; omega)
  change Calls Try.prog 124 _ _ _ at hso
  rw [List.size_toArray] at hso
  have HSO := hide hso
  have HH := hide (holds_of_owns (ps := ps) hg htk)
  have HB1 := hide hb1
  clear hso how hne htk hg hsz hb1 eg HCL
  go_wp2_with fail
  refine HSO.out.mono ?_
  rintro e w2 ⟨rfl, d', n, os, hpm, hsd, rfl⟩
  have hsz : d'.size = ps.length := by have := hpm.1; simpa using this
  have HP := hide (show ps.Perm d'.toList by
    have h := perm_of (d := ps.toArray) (d' := d') (by simpa using hpm)
    simpa using h)
  have HS := hide (sorted_of (d := d') (by rw [hsz]; exact hsd))
  have HA := hide (parts_holds (holdsK_sortWorldK_c encP 3 w1 g 0 ps.toArray d' n os HH.out hlt (by simpa using hsz)))
  have HB := hide (HB1.out.trans (below_sort w1 w.heap.size g n d' os hbg HB1.out.size))
  clear hpm hsd HSO
  go_wp2_with fail
  go_ret
  have hl2 : d'.toList.length = ps.length := by simpa using hsz
  exact ⟨some ⟨g, 0, none⟩, c, d'.toList, by first | (rw [hl2]; done) | (simp [hsz]; done) | (simp [hl2]; done), by omega, hcm, HP.out, HS.out, HA.out, HB.out⟩

theorem implTouch_any : TouchDone := fun b o b' o' ps qs cap cap' w _ _ hn hn' hp hq => implTouch_over implInOrder_any (some ⟨b, o, none⟩) (some ⟨b', o', none⟩) ps qs cap cap' w (.inl ⟨b, o, rfl⟩) (.inl ⟨b', o', rfl⟩) hn hn' hp hq
end Go.Proofs.Ytplnppdlabpodaa

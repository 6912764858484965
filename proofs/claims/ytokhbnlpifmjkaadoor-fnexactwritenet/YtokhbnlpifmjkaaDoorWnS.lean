import Derived.Test.YtokhbnlpifmjkaaDoorWnP
import Derived.Deep.RegionHeld3
namespace Go.Proofs.YtokhbnlpifmjkaaDoor
open Go.RowKit
set_option maxHeartbeats 2000000

/-- What holds at each loop of spec.WriteNet: the net's two cells. -/
structure WB (w wr : World) (v0 v1 : Value) : Prop where
  n0 : wr.cell? ⟨w.heap.size, 0, none⟩ = some v0
  n1 : wr.cell? ⟨w.heap.size, 1, none⟩ = some v1
  below : Below w.heap.size w wr

theorem WB.later {w w1 w2 : World} {v0 v1 : Value} (h : WB w w1 v0 v1) (hb : Below w1.heap.size w1 w2) : WB w w2 v0 v1 :=
  ⟨cell_later' hb h.n0, cell_later' hb h.n1, h.below.trans (hb.mono h.below.size)⟩

theorem keep4 {w w1 w2 : World} {b0 b1 b2 b3 o0 o1 o2 o3 : Nat} {x0 x1 x2 x3 v0 v1 : Value} (hb : Below w1.heap.size w1 w2)
    (h : (w1.cell? ⟨b0, o0, none⟩ = some x0 ∧ w1.cell? ⟨b1, o1, none⟩ = some x1 ∧ w1.cell? ⟨b2, o2, none⟩ = some x2 ∧ w1.cell? ⟨b3, o3, none⟩ = some x3) ∧ Hid (WB w w1 v0 v1)) :
    (w2.cell? ⟨b0, o0, none⟩ = some x0 ∧ w2.cell? ⟨b1, o1, none⟩ = some x1 ∧ w2.cell? ⟨b2, o2, none⟩ = some x2 ∧ w2.cell? ⟨b3, o3, none⟩ = some x3) ∧ Hid (WB w w2 v0 v1) :=
  ⟨⟨cell_later' hb h.1.1, cell_later' hb h.1.2.1, cell_later' hb h.1.2.2.1, cell_later' hb h.1.2.2.2⟩, h.2.out.later hb⟩

set_option maxRecDepth 20000 in
theorem specWriteNet_any (a a' : Option Addr) (N : Nt) (cap cap' : Nat) (w : World) (hn : N.pcs.length ≤ 1048576) (hs : ∀ p ∈ N.pcs, p.name.size ≤ 1048576) (hl : N.jts.length ≤ 1048576) (hm : ∀ j ∈ N.jts, j.name.size ≤ 1048576 ∧ j.ends.length ≤ 1048576) (hp : PcsAt w a N.pcs) (hj : JtsAt w a' N.jts) :
    Calls Tryd.prog 5 #[.agg #[.slice a N.pcs.length cap, .slice a' N.jts.length cap']] w fun e w' =>
    e = .returned (.string (if netOk N = (0, 0) then wText N else ⟨#[]⟩)) ∧ Below w.heap.size w w' := by
  have HP := hide hp
  have HJ := hide hj
  have HM := hide hm
  have HS := hide hs
  clear hp hj hm hs
  generalize hRes : (if netOk N = (0, 0) then wText N else ⟨#[]⟩) = Res
  have HRES := hide hRes
  clear hRes
  go_enter Tryd.func5, Tryd.ntmps5
  go_wp2_with fail
  have hbW : Below w.heap.size w (w.alloc (.cells #[.slice a N.pcs.length cap, .slice a' N.jts.length cap'] 31)) := (Below.refl _ _).alloc (Nat.le_refl _) _
  have HW0 : Hid (WB w (w.alloc (.cells #[.slice a N.pcs.length cap, .slice a' N.jts.length cap'] 31)) (.slice a N.pcs.length cap) (.slice a' N.jts.length cap')) := ⟨by simp [go_sem], by simp [go_sem], hbW⟩
  refine (l1ok_any a a' N cap cap' _ hn HS.out hl HM.out (HP.out.later hbW) (HJ.out.later hbW)).mono ?_
  rintro e w1 ⟨rfl, hb1⟩
  have HW := hide (HW0.out.later hb1)
  clear hb1 HW0 hbW
  by_cases hok : netOk N = (0, 0)
  case neg =>
    have HX := hide (show Res = ⟨#[]⟩ by rw [← HRES.out, if_neg hok])
    rw [show decide (netOk N = (0, 0)) = false from decide_eq_false hok]
    clear hok
    obtain ⟨n0, n1, hb⟩ := HW.out
    go_wp2_with fail
    go_ret
    exact ⟨by rw [HX.out]; rfl, hb⟩
  have HX := hide (show Res = wText N by rw [← HRES.out, if_pos hok])
  have HR := hide (rightN hok)
  rw [show decide (netOk N = (0, 0)) = true from decide_eq_true hok]
  clear hok
  obtain ⟨n0, n1, hb⟩ := HW.out
  go_wp2_with fail
  go_loopw [3, 5, 16] (fun o _ i wr => ∃ (k : Nat), k ≤ N.pcs.length ∧ i = .int .i64 k ∧ o = .string (wPcs (N.pcs.take k) ⟨#[]⟩) ∧ WB w wr (.slice a N.pcs.length cap) (.slice a' N.jts.length cap')) (fun _ _ i _ => N.pcs.length - (intOf i).toNat)
  case atStart => exact ⟨0, Nat.zero_le _, rfl, rfl, HW.out⟩
  case round =>
    obtain ⟨k, hk, rfl, rfl, hWB⟩ := hrel
    have HWB := hide hWB
    obtain ⟨n0, n1, hb⟩ := hWB
    have hz0 := cell_lt n0
    by_cases hlt : k < N.pcs.length
    · obtain ⟨b, off, rfl, c0, c1, c2, c3⟩ := (PcsAt.later HP.out hb) k hlt
      have hblt := cell_lt c0
      have hpb := pc_ok_bounds (HR.out.pc k hlt)
      have hO := wPcs_size' HR.out k hk
      have hlp := HR.out.lp
      have HSUC := hide (wPcs_succ N.pcs k hlt ⟨#[]⟩)
      generalize wPcs (N.pcs.take k) ⟨#[]⟩ = o at HSUC hO
      generalize N.pcs[k] = p at HSUC hpb c0 c1 c2 c3 ⊢
      obtain ⟨pn, pl, ps, pb⟩ := p
      dsimp only at hpb c0 c1 c2 c3
      have hd1 := dtext_size pl (by omega)
      have hd2 := dtext_size ps (by omega)
      have hd3 := dtext_size pb (by omega)
      have HL := hide (show lineP ⟨pn, pl, ps, pb⟩ = ((((((⟨#[112, 105, 101, 99, 101, 32]⟩ ++ pn) ++ ⟨#[32]⟩) ++ dtext pl) ++ ⟨#[32, 115, 112, 101, 101, 100, 32]⟩) ++ dtext ps) ++ ⟨#[32, 98, 114, 97, 107, 101, 32]⟩) ++ dtext pb ++ ⟨#[10]⟩ from rfl)
      have q1 : (9223372036854775807 < 6 + pn.size) = False := eq_false (by omega)
      have q2 : (9223372036854775807 < 6 + pn.size + 1) = False := eq_false (by omega)
      have q3 : (9223372036854775807 < 6 + pn.size + 1 + (dtext pl).size) = False := eq_false (by omega)
      have q4 : (9223372036854775807 < 6 + pn.size + 1 + (dtext pl).size + 7) = False := eq_false (by omega)
      have q5 : (9223372036854775807 < 6 + pn.size + 1 + (dtext pl).size + 7 + (dtext ps).size) = False := eq_false (by omega)
      have q6 : (9223372036854775807 < 6 + pn.size + 1 + (dtext pl).size + 7 + (dtext ps).size + 7) = False := eq_false (by omega)
      have q7 : (9223372036854775807 < 6 + pn.size + 1 + (dtext pl).size + 7 + (dtext ps).size + 7 + (dtext pb).size) = False := eq_false (by omega)
      have q8 : (9223372036854775807 < 6 + pn.size + 1 + (dtext pl).size + 7 + (dtext ps).size + 7 + (dtext pb).size + 1) = False := eq_false (by omega)
      have q9 : (9223372036854775807 < o.size + (6 + pn.size + 1 + (dtext pl).size + 7 + (dtext ps).size + 7 + (dtext pb).size + 1)) = False := eq_false (by omega)
      go_wp2_with fail
      have HW2 := hide (HWB.out.later ((Below.refl wr.heap.size wr).alloc (Nat.le_refl _) (.cells #[.string pn, .int .i64 pl, .int .i64 ps, .int .i64 pb] 39)))
      have hl0 : 0 ≤ pl ∧ pl ≤ 10000000 := by omega
      have hs0 : 0 ≤ ps ∧ ps ≤ 10000000 := by omega
      have hb0 : 0 ≤ pb ∧ pb ≤ 10000000 := by omega
      go_region_held3 (fun w' => (w'.cell? ⟨wr.heap.size, 0, none⟩ = some (.string pn) ∧ w'.cell? ⟨wr.heap.size, 1, none⟩ = some (.int .i64 pl) ∧ w'.cell? ⟨wr.heap.size, 2, none⟩ = some (.int .i64 ps) ∧ w'.cell? ⟨wr.heap.size, 3, none⟩ = some (.int .i64 pb)) ∧ Hid (WB w w' (.slice (some ⟨b, off, none⟩) N.pcs.length cap) (.slice a' N.jts.length cap')))
        (first
          | (exact ⟨⟨by simp [go_sem], by simp [go_sem], by simp [go_sem], by simp [go_sem]⟩, HW2.out.later ((Below.refl _ _).drew)⟩)
          | (exact keep4 (by assumption) (by assumption)))
        (first
          | (go_at_call 12; refine (l2decimal_any _ _ ?_ ?_).mono ?_; omega; omega; rintro e w' ⟨rfl, hbc⟩))
      clear HWB HW2 n0 n1 hb hz0
      rename_i hH
      obtain ⟨_, hW3⟩ := hH
      have hW3' := hW3.out
      have HW3 := hide hW3'
      obtain ⟨n0, n1, hb⟩ := hW3'
      go_wp2_with fail
      refine ⟨⟨k + 1, by omega, by go_num, ?_, HW3.out⟩, by simp [intOf]; omega⟩
      rw [HSUC.out, HL.out]
    · obtain rfl : k = N.pcs.length := by omega
      rw [List.take_length]
      have hO := wPcs_size' HR.out N.pcs.length (Nat.le_refl _)
      rw [List.take_length] at hO
      have hlp := HR.out.lp
      have hlj := HR.out.lj
      have HX2 := hide (show Res = wJts N.pcs N.jts (wPcs N.pcs ⟨#[]⟩) from HX.out)
      generalize wPcs N.pcs ⟨#[]⟩ = o1 at HX2 hO
      go_wp2_with fail
      go_loopw [3, 7, 9, 45] (fun o _ _ i wr => ∃ (k : Nat), k ≤ N.jts.length ∧ i = .int .i64 k ∧ o = .string (wJts N.pcs (N.jts.take k) o1) ∧ WB w wr (.slice a N.pcs.length cap) (.slice a' N.jts.length cap')) (fun _ _ _ i _ => N.jts.length - (intOf i).toNat)
      case atStart => exact ⟨0, Nat.zero_le _, rfl, rfl, HWB.out⟩
      case round =>
        obtain ⟨k, hk, rfl, rfl, hWB2⟩ := hrel
        have HWB2 := hide hWB2
        clear HWB n0 n1 hb hz0
        obtain ⟨n0, n1, hb⟩ := hWB2
        have hz0 := cell_lt n0
        by_cases hlt : k < N.jts.length
        · obtain ⟨b, off, ea, ec, rfl, c0, c1, c2, ce⟩ := HJ.out k hlt
          have c0 := cell_later' hb c0
          have c1 := cell_later' hb c1
          have c2 := cell_later' hb c2
          have hblt := cell_lt c0
          have CE := hide ce
          clear ce
          have hel := HR.out.elen k hlt
          have hns := HR.out.nsize k hlt
          have HKD := hide (HR.out.kind k hlt)
          have hO2 := wJts_size HR.out k hk o1
          have HSUC := hide (wJts_succ N.pcs N.jts k hlt o1)
          generalize wJts N.pcs (N.jts.take k) o1 = o2 at HSUC hO2
          have hkw := kw_size N.jts[k].kind
          have hbA : Below wr.heap.size wr (wr.alloc (.cells #[.int .i64 N.jts[k].kind, .string N.jts[k].name, .slice ea N.jts[k].ends.length ec] 43)) := (Below.refl _ _).alloc (Nat.le_refl _) _
          have q1 : (9223372036854775807 < o2.size + (kw N.jts[k].kind).size) = False := eq_false (by omega)
          have q2 : (9223372036854775807 < 1 + N.jts[k].name.size) = False := eq_false (by omega)
          have q3 : (9223372036854775807 < o2.size + (kw N.jts[k].kind).size + (1 + N.jts[k].name.size)) = False := eq_false (by omega)
          have hge : ∀ h : N.jts[k].kind.toNat < 5, ([.string ⟨#[]⟩, .string ⟨#[101, 110, 100]⟩, .string ⟨#[106, 111, 105, 110]⟩, .string ⟨#[115, 119, 105, 116, 99, 104]⟩, .string ⟨#[99, 114, 111, 115, 115]⟩] : List Value)[N.jts[k].kind.toNat]'h = .string (kw N.jts[k].kind) := by
            intro h
            have e : ([.string ⟨#[]⟩, .string ⟨#[101, 110, 100]⟩, .string ⟨#[106, 111, 105, 110]⟩, .string ⟨#[115, 119, 105, 116, 99, 104]⟩, .string ⟨#[99, 114, 111, 115, 115]⟩] : List Value)[N.jts[k].kind.toNat]? = some (.string (kw N.jts[k].kind)) := by
              rcases HKD.out with h | h | h | h <;> (rw [h]; rfl)
            obtain ⟨_, e'⟩ := List.getElem?_eq_some_iff.1 e
            exact e'
          have hk0 : 0 ≤ N.jts[k].kind := by have := HKD.out; omega
          have hk5 : N.jts[k].kind < 5 := by have := HKD.out; omega
          have HHD : Hid (∃ o3, jHead N.jts[k] o2 = o3 ∧ o3.size ≤ o2.size + 30) := ⟨_, rfl, jHead_size HR.out hlt o2⟩
          have hEM := isEmpty_size N.jts[k].name
          have HW2 := hide ((HWB2.out.later hbA).later ((Below.refl _ _).alloc (Nat.le_refl _) (.cells #[.string ⟨#[]⟩, .string ⟨#[101, 110, 100]⟩, .string ⟨#[106, 111, 105, 110]⟩, .string ⟨#[115, 119, 105, 116, 99, 104]⟩, .string ⟨#[99, 114, 111, 115, 115]⟩] 9)))
          clear hbA n0 n1 hb hz0
          cases hnm : N.jts[k].name.toList.isEmpty
          focus
            have HJH := hide (show jHead N.jts[k] o2 = o2 ++ kw N.jts[k].kind ++ (⟨#[32]⟩ ++ N.jts[k].name) by
              unfold jHead
              rw [if_neg]
              intro h0
              rw [hnm, h0] at hEM
              simp at hEM)
            have hnm' : (!N.jts[k].name.toList.isEmpty) = true := by rw [hnm]; rfl
            clear hnm hEM
            go_wp2_with fail
            generalize o2 ++ kw N.jts[k].kind ++ (⟨#[32]⟩ ++ N.jts[k].name) = o3 at HJH ⊢
          rotate_left
          focus
            have HJH := hide (show jHead N.jts[k] o2 = o2 ++ kw N.jts[k].kind by
              unfold jHead
              rw [if_pos]
              rw [hnm] at hEM
              simpa using hEM.symm)
            have hnm' : (!N.jts[k].name.toList.isEmpty) = false := by rw [hnm]; rfl
            clear hnm hEM
            go_wp2_with fail
            generalize o2 ++ kw N.jts[k].kind = o3 at HJH ⊢
          all_goals
            have hO3 := jHead_size HR.out hlt o2
            rw [HJH.out] at hO3
            clear hnm' hge q1 q2 q3 c0 c1 c2
            go_loopw [3, 9, 67] (fun o _ i wi => ∃ (t : Nat), t ≤ N.jts[k].ends.length ∧ i = .int .i64 t ∧ o = .string (jEnds N.pcs (N.jts[k].ends.take t) o3) ∧ WB w wi (.slice a N.pcs.length cap) (.slice (some ⟨b, off, none⟩) N.jts.length cap')) (fun _ _ i _ => N.jts[k].ends.length - (intOf i).toNat)
            case atStart => exact ⟨0, Nat.zero_le _, rfl, rfl, HW2.out⟩
            case round =>
              obtain ⟨t, ht, rfl, rfl, hWI⟩ := hrel
              have HWI := hide hWI
              obtain ⟨n0, n1, hb⟩ := hWI
              have hz0 := cell_lt n0
              have hO4 := jEnds_size HR.out hlt t ht o3
              by_cases hti : t < N.jts[k].ends.length
              · obtain ⟨b2, off2, rfl, d0, d1⟩ := (EndsAt.later CE.out hb) t hti
                obtain ⟨pi, hp1, hp2, hs0, hs1⟩ := HR.out.ends k hlt t hti
                obtain ⟨bp, op, rfl, x0, _, _, _⟩ := (PcsAt.later HP.out hb) pi hp2
                have hpb := pc_ok_bounds (HR.out.pc pi hp2)
                have HSU := hide (jEnds_succ N.pcs N.jts[k].ends t hti o3)
                have HET := hide (show endT N.pcs N.jts[k].ends[t] = ((⟨#[32]⟩ ++ N.pcs[pi].name) ++ ⟨#[46]⟩) ++ dtext N.jts[k].ends[t].2 by
                  unfold endT
                  rw [hp1, pnm_eq hp2])
                generalize jEnds N.pcs (N.jts[k].ends.take t) o3 = o4 at HSU hO4 ⊢
                have hdt := dtext_size N.jts[k].ends[t].2 (by omega)
                generalize N.jts[k].ends[t].2 = sd at d1 hs0 hs1 HET hdt
                rw [hp1] at d0
                have hi0 : (0 : Int) ≤ (pi : Int) := by omega
                have hi1 : (pi : Int) < (N.pcs.length : Int) := by omega
                have q1 : (9223372036854775807 < 1 + N.pcs[pi].name.size) = False := eq_false (by omega)
                have q2 : (9223372036854775807 < 1 + N.pcs[pi].name.size + 1) = False := eq_false (by omega)
                have q3 : (9223372036854775807 < 1 + N.pcs[pi].name.size + 1 + (dtext sd).size) = False := eq_false (by omega)
                have q4 : (9223372036854775807 < o4.size + (1 + N.pcs[pi].name.size + 1 + (dtext sd).size)) = False := eq_false (by omega)
                have hAD : Below wr.heap.size wr ((wr.alloc (.cells #[.int .i64 pi, .int .i64 sd] 46)).drew) := ((Below.refl _ _).alloc (Nat.le_refl _) _).drew
                go_wp2_with fail
                go_region_held3 (fun w' => (w'.cell? ⟨w.heap.size, 0, none⟩ = some (.slice (some ⟨bp, op, none⟩) N.pcs.length cap) ∧ w'.cell? ⟨wr.heap.size, 0, none⟩ = some (.int .i64 pi) ∧ w'.cell? ⟨wr.heap.size, 1, none⟩ = some (.int .i64 sd) ∧ w'.cell? ⟨bp, op + pi * 4, none⟩ = some (.string N.pcs[pi].name)) ∧ Hid (WB w w' (.slice (some ⟨bp, op, none⟩) N.pcs.length cap) (.slice (some ⟨b, off, none⟩) N.jts.length cap')))
                  (first
                    | (exact ⟨⟨cell_later' hAD n0, by simp [go_sem], by simp [go_sem], cell_later' hAD x0⟩, HWI.out.later hAD⟩)
                    | (exact keep4 (by assumption) (by assumption)))
                  (first
                    | (go_at_call 12; refine (l2decimal_any _ _ ?_ ?_).mono ?_; omega; omega; rintro e w' ⟨rfl, hbc⟩))
                rename_i hH
                obtain ⟨_, hW3⟩ := hH
                have HW3 := hide hW3.out
                go_wp2_with fail
                refine ⟨⟨t + 1, by omega, by go_num, ?_, HW3.out⟩, by simp [intOf]; omega⟩
                rw [HSU.out, HET.out]
              · have HE := hide (show jLine N.pcs o2 N.jts[k] = jEnds N.pcs (N.jts[k].ends.take t) o3 ++ ⟨#[10]⟩ by
                  unfold jLine
                  rw [HJH.out, List.take_of_length_le (l := N.jts[k].ends) (by omega)])
                generalize jEnds N.pcs (N.jts[k].ends.take t) o3 = o4 at HE hO4 ⊢
                have q1 : (9223372036854775807 < o4.size + 1) = False := eq_false (by omega)
                go_wp2_with fail
                go_roundw
                case rel =>
                  refine ⟨k + 1, by omega, by go_num, ?_, HWI.out⟩
                  rw [HSUC.out, HE.out]
                case measure => simp [intOf]; omega
        · go_wp2_with fail
          go_ret
          refine ⟨?_, hb⟩
          rw [HX2.out, List.take_of_length_le (by omega)]
          rfl
end Go.Proofs.YtokhbnlpifmjkaaDoor

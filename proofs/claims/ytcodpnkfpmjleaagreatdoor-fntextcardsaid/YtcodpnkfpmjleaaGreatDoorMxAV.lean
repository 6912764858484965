/- impl: the kind that a word names. Own work. -/
import Derived.Test.YtcodpnkfpmjleaaGreatDoorRiA
import Derived.Shelf.Strconv.Clone
import Derived.Shelf.LaysM
import Derived.Test.YtcodpnkfpmjleaaGreatDoorProg
import Derived.Test.YtcodpnkfpmjleaaGreatDoorRiF
import Derived.Test.YtcodpnkfpmjleaaGreatDoorRiS
namespace Go.Proofs.YtcodpnkfpmjleaaGreatDoor
open Go.RowKit Go.Sort
set_option maxHeartbeats 4000000
set_option maxRecDepth 100000

theorem jointWord_at (k : Nat) (h : k = 1 ∨ k = 2 ∨ k = 3 ∨ k = 4) (w : World) :
    Calls Tryz.prog 60 #[.int .i64 k] w fun e w' => e = .returned (.string (sb (kindB k))) ∧ w = w' := by
  rcases h with rfl | rfl | rfl | rfl
  all_goals
    go_enter Tryz.func60, Tryz.ntmps60
    go_wp2_with fail
    go_ret
    exact ⟨rfl, rfl⟩
theorem kindW_at {l : Bl} {k : Nat} (h : k = 1 ∨ k = 2 ∨ k = 3 ∨ k = 4) (he : l = kindB k) : kindW l = k := by
  subst he
  rcases h with rfl | rfl | rfl | rfl <;> decide
theorem kindW_no {l : Bl} (h : ∀ k, 1 ≤ k → k ≤ 4 → ¬ l = kindB k) : kindW l = 0 := by
  unfold kindW
  rw [if_neg (h 1 (by omega) (by omega)), if_neg (h 2 (by omega) (by omega)), if_neg (h 3 (by omega) (by omega)), if_neg (h 4 (by omega) (by omega))]
theorem kind_any (br : Nat) (l : Bl) (line : Int) (w : World) (hc : w.cell? ⟨br, 0, none⟩ = some (.int .i64 line)) :
    Calls Tryz.prog 103 #[.pointer (some ⟨br, 0, none⟩), .string (sb l)] w fun e w' => ((kindW l ≠ 0 ∧ e = .returned (.int .i64 (kindW l : Nat))) ∨ (kindW l = 0 ∧ e = .panicked (leaveC 1 line))) ∧ w = w' := by
  have HC := hide hc
  have hl := cell_lt hc
  clear hc
  go_enter Tryz.func103, Tryz.ntmps103
  go_wp2_with fail
  go_loop [5] (fun q5 => ∃ k : Nat, 1 ≤ k ∧ k ≤ 5 ∧ q5 = .int .i64 k ∧ Hid (∀ j, 1 ≤ j → j < k → ¬ l = kindB j)) (fun q5 => 5 - (intOf q5).toNat)
  case atStart => exact ⟨1, by omega, by omega, rfl, (fun j h1 h2 => by omega)⟩
  case round =>
    obtain ⟨k, hk1, hk5, rfl, HNO⟩ := hrel
    by_cases hlt : k ≤ 4
    · have g4 : decide ((k : Int) ≤ 4) = true := decide_eq_true (by omega)
      have hkk : k = 1 ∨ k = 2 ∨ k = 3 ∨ k = 4 := by omega
      have hwk : IntKind.i64.wrap ((k : Int) + 1) = (k : Int) + 1 := by rw [IntKind.wrap_i64]; omega
      have HJW := hide (fun W => jointWord_at k hkk W)
      by_cases he : l = kindB k
      · have gL : ((sb (kindB k)).toList == (sb l).toList) = true := by rw [sb_toList, sb_toList, beq_iff_eq]; exact he.symm
        have HK := hide (kindW_at hkk he)
        clear he hkk
        go_wp2_with (go_at_call 60; refine (HJW.out _).mono ?_; rintro e w2 ⟨rfl, hw⟩; subst hw)
        go_ret
        exact ⟨.inl ⟨by rw [HK.out]; omega, by rw [HK.out]; rfl⟩, rfl⟩
      · have gL : ((sb (kindB k)).toList == (sb l).toList) = false := by rw [sb_toList, sb_toList, beq_eq_false_iff_ne]; exact fun h => he h.symm
        have HN2 : Hid (∀ j, 1 ≤ j → j < k + 1 → ¬ l = kindB j) := fun j h1 h2 => by
          by_cases e : j = k
          · subst e; exact he
          · exact HNO.out j h1 (by omega)
        clear he hkk
        go_wp2_with (go_at_call 60; refine (HJW.out _).mono ?_; rintro e w2 ⟨rfl, hw⟩; subst hw)
        go_roundw
        case rel => exact ⟨k + 1, by omega, by omega, by go_num, HN2⟩
        case measure => simp [intOf]; omega
    · obtain rfl : k = 5 := by omega
      have HK := hide (kindW_no (fun k h1 h2 => HNO.out k h1 (by omega)))
      clear hlt hk1 hk5
      go_wp2_with (go_at_call 63; refine (want_noR br 1 line _ HC.out).mono ?_; rintro e w2 ⟨rfl, hw⟩; subst hw)
      exact ⟨rfl, .inr ⟨HK.out, rfl⟩, rfl⟩
end Go.Proofs.YtcodpnkfpmjleaaGreatDoor

/- The library's contract of strings.Clone, laid at this dump in plain words. -/
namespace Go.Proofs
open Go.Shelf
def Tryz.shN_ren : Go.Shelf.Ren := ⟨fun | 316 => 172 | n => n, fun | 9 => 9 | 3 => 3 | 4 => 4 | 0 => 0 | 37 => 22 | 127 => 123 | 5 => 5 | n => n, fun | n => n⟩
theorem Tryz.shN316 : Go.Proofs.LaysM.n316 Tryz.prog Tryz.shN_ren := {
  mixed := by kernel_rfl
  f316 := Tryz.func172.trans (congrArg some (by kernel_rfl))
  t0 := Tryz.underlying0
  a0 := Tryz.isAgg0
  z0 := Tryz.sizeOf0
  v0 := Tryz.zeroValue0
  t3 := Tryz.underlying3
  a3 := Tryz.isAgg3
  z3 := Tryz.sizeOf3
  v3 := Tryz.zeroValue3
  t4 := Tryz.underlying4
  a4 := Tryz.isAgg4
  z4 := Tryz.sizeOf4
  v4 := Tryz.zeroValue4
  t5 := Tryz.underlying5
  a5 := Tryz.isAgg5
  z5 := Tryz.sizeOf5
  v5 := Tryz.zeroValue5
  t9 := Tryz.underlying9
  a9 := Tryz.isAgg9
  z9 := Tryz.sizeOf9
  v9 := Tryz.zeroValue9
  t37 := Tryz.underlying22
  a37 := Tryz.isAgg22
  z37 := Tryz.sizeOf22
  v37 := Tryz.zeroValue22
  t127 := Tryz.underlying123
  a127 := Tryz.isAgg123
  z127 := Tryz.sizeOf123
  v127 := Tryz.zeroValue123
  i0 := by kernel_rfl
  i3 := by kernel_rfl
  i4 := by kernel_rfl
  i5 := by kernel_rfl
  i9 := by kernel_rfl
  i37 := by kernel_rfl
  i127 := by kernel_rfl }
end Go.Proofs

/- impl: a name of a text. Own work. -/
namespace Go.Proofs.YtcodpnkfpmjleaaGreatDoor
open Go.RowKit Go.Sort
set_option maxHeartbeats 4000000
set_option maxRecDepth 100000

theorem clone_any (s : ByteArray) (w : World) (hs : s.size ≤ 1048576) :
    Calls Tryz.prog 155 #[.string s] w fun e w' => e = .returned (.string s) ∧ Below w.heap.size w w' := by
  go_enter Tryz.func155, Tryz.ntmps155
  go_wp2_with (go_at_call 172; refine (Any.stringslite_Clone Tryz.shN316 s _ (by omega)).mono ?_; rintro e w2 ⟨rfl, hb⟩)
  go_ret
  exact ⟨rfl, hb⟩
theorem readName_any (br : Nat) (s : ByteArray) (line : Int) (w : World) (hs : s.size ≤ 1048576) (hc : w.cell? ⟨br, 0, none⟩ = some (.int .i64 line)) :
    Calls Tryz.prog 129 #[.pointer (some ⟨br, 0, none⟩), .string s] w fun e w' => ((nm s = true ∧ e = .returned (.string s)) ∨ (nm s = false ∧ e = .panicked (leaveC 1 line))) ∧ Below w.heap.size w w' := by
  have HC := hide hc
  clear hc
  cases hn : nm s with
  | true =>
    have HN := hide hn
    clear hn
    go_enter Tryz.func129, Tryz.ntmps129
    go_wp2_with (first
      | (go_at_call 107; refine (nameOk_any s _ hs).mono ?_; rintro e w2 ⟨rfl, hw⟩; subst hw; rw [HN.out])
      | (go_at_call 63; refine (want_ok _ _ _).mono ?_; rintro e w2 ⟨⟨v2, rfl⟩, hw⟩; subst hw)
      | (go_at_call 155; refine (clone_any s _ hs).mono ?_; rintro e w2 ⟨rfl, hb⟩))
    go_ret
    exact ⟨.inl ⟨by first | trivial | rfl, rfl⟩, hb⟩
  | false =>
    have HN := hide hn
    clear hn
    go_enter Tryz.func129, Tryz.ntmps129
    go_wp2_with (first
      | (go_at_call 107; refine (nameOk_any s _ hs).mono ?_; rintro e w2 ⟨rfl, hw⟩; subst hw; rw [HN.out])
      | (go_at_call 63; refine (want_noR br 1 line _ HC.out).mono ?_; rintro e w2 ⟨rfl, hw⟩; subst hw))
    exact ⟨rfl, .inr ⟨by first | trivial | rfl, rfl⟩, Below.refl _ _⟩
end Go.Proofs.YtcodpnkfpmjleaaGreatDoor

/- impl: the ends of a line as they are spelt. Own work. -/
namespace Go.Proofs.YtcodpnkfpmjleaaGreatDoor
open Go.RowKit Go.Sort
set_option maxHeartbeats 4000000
set_option maxRecDepth 100000

theorem infoSpelt : (Tryz.prog.info? 258).map (fun i => (i.zero, i.size, i.bytes)) = some (some (.agg #[.string ⟨#[]⟩, .int .i64 0]), 2, 24) := by kernel_rfl
def slE (l : Bl) : Sl := ⟨sb (nameE l), sideV l⟩
theorem okE_false {l : Bl} (h : ¬ (sideE l = [48] ∨ sideE l = [49])) : okE l = false := by
  unfold okE
  rw [not_or] at h
  rw [decide_eq_false h.1, decide_eq_false h.2]
  rfl
theorem okE_nm {l : Bl} (h : nm (sb (nameE l)) = false) : okE l = false := by
  unfold okE
  rw [h, Bool.and_false]
theorem okE_yes {l : Bl} (h : sideE l = [48] ∨ sideE l = [49]) (hn : nm (sb (nameE l)) = true) : okE l = true := by
  unfold okE
  rw [hn]
  rcases h with h | h <;> simp [h]
theorem sideV_num {l : Bl} (h : sideE l = [48] ∨ sideE l = [49]) : numOk (sideE l) = true ∧ valD (sideE l) = sideV l := by
  unfold sideV
  rcases h with h | h <;> rw [h] <;> decide
theorem all_false {ws : List Bl} {x : Bl} (h : x ∈ ws) (hx : okE x = false) : ws.all okE = false := by
  rw [List.all_eq_false]
  exact ⟨x, h, by rw [hx]; simp⟩
theorem cutDot_any (l : Bl) (w : World) (hl : l.length ≤ 1048576) (hm : MX w) :
    Calls Tryz.prog 126 #[.string (sb l), .string ⟨#[46]⟩] w fun e w' => (∃ b : Bool, e = .returned (.tuple #[.string (sb (nameE l)), .string (sb (sideE l)), .bool b])) ∧ Below w.heap.size w w' :=
  (cut_any l [46] w hl hm).mono fun _ _ h => ⟨⟨_, h.1⟩, h.2⟩
theorem name_yes (br : Nat) {s : ByteArray} (line : Int) (w : World) (hs : s.size ≤ 1048576) (hc : w.cell? ⟨br, 0, none⟩ = some (.int .i64 line)) (hn : nm s = true) :
    Calls Tryz.prog 129 #[.pointer (some ⟨br, 0, none⟩), .string s] w fun e w' => e = .returned (.string s) ∧ Below w.heap.size w w' :=
  (readName_any br s line w hs hc).mono fun _ _ h => ⟨by rcases h.1 with h' | h'; exact h'.2; rw [hn] at h'; exact absurd h'.1 (by simp), h.2⟩
theorem name_no (br : Nat) {s : ByteArray} (line : Int) (w : World) (hs : s.size ≤ 1048576) (hc : w.cell? ⟨br, 0, none⟩ = some (.int .i64 line)) (hn : nm s = false) :
    Calls Tryz.prog 129 #[.pointer (some ⟨br, 0, none⟩), .string s] w fun e w' => e = .panicked (leaveC 1 line) ∧ Below w.heap.size w w' :=
  (readName_any br s line w hs hc).mono fun _ _ h => ⟨by rcases h.1 with h' | h'; rw [hn] at h'; exact absurd h'.1 (by simp); exact h'.2, h.2⟩
theorem num_yes (br : Nat) {l : Bl} (line : Int) (w : World) (hs : l.length ≤ 1048576) (hc : w.cell? ⟨br, 0, none⟩ = some (.int .i64 line)) (hn : numOk l = true) :
    Calls Tryz.prog 130 #[.pointer (some ⟨br, 0, none⟩), .string (sb l)] w fun e w' => e = .returned (.int .i64 (valD l)) ∧ w = w' :=
  (number_any br (sb l) line w (by rw [sb_size]; exact hs) hc).mono fun _ _ h => ⟨by rw [bs_sb] at h; rcases h.1 with h' | h'; exact h'.2; rw [hn] at h'; exact absurd h'.1 (by simp), h.2⟩
theorem num_no (br : Nat) {l : Bl} (line : Int) (w : World) (hs : l.length ≤ 1048576) (hc : w.cell? ⟨br, 0, none⟩ = some (.int .i64 line)) (hn : numOk l = false) :
    Calls Tryz.prog 130 #[.pointer (some ⟨br, 0, none⟩), .string (sb l)] w fun e w' => e = .panicked (leaveC 1 line) ∧ w = w' :=
  (number_any br (sb l) line w (by rw [sb_size]; exact hs) hc).mono fun _ _ h => ⟨by rw [bs_sb] at h; rcases h.1 with h' | h'; rw [hn] at h'; exact absurd h'.1 (by simp); exact h'.2, h.2⟩
theorem spell_any (br : Nat) (z : Option Addr) (cz : Nat) (ws : List Bl) (line : Int) (w : World) (hl : ws.length ≤ 1048576) (hs : ∀ x ∈ ws, x.length ≤ 1048576) (hM : MX w) (hc : w.cell? ⟨br, 0, none⟩ = some (.int .i64 line)) (hz : StrsAtR w z ws) :
    Calls Tryz.prog 132 #[.pointer (some ⟨br, 0, none⟩), .slice z ws.length cz] w fun e w' => ((ws.all okE = true ∧ ∃ v, e = .returned v ∧ w'.ownsRow w.heap.size 258 2 v ws.length (slCells (ws.map slE))) ∨ (ws.all okE = false ∧ e = .panicked (leaveC 1 line))) ∧ Below w.heap.size w w' := by
  obtain ⟨iE, hiE, hz0, hz1, hz2⟩ := info_parts infoSpelt
  have HI := hide hiE
  have H0 := hide hz0
  have H1 := hide hz1
  have H2 := hide hz2
  have HC := hide hc
  have HM := hide hM
  have HZ := hide hz
  have HS := hide hs
  have hlb := cell_lt hc
  clear hiE hz0 hz1 hz2 hc hM hz hs
  go_enter Tryz.func132, Tryz.ntmps132
  go_wp2_with fail
  go_loopw [5, 7, 8, 9, 10, 13] (fun q5 _ _ _ _ q13 wr => ∃ k : Nat, k ≤ ws.length ∧ q13 = .int .i64 k ∧ Hid (wr.ownsRow w.heap.size 258 2 q5 k (slCells ((ws.take k).map slE))) ∧ Hid (Below w.heap.size w wr) ∧ Hid ((ws.take k).all okE = true)) (fun _ _ _ _ _ q13 _ => ws.length - (intOf q13).toNat)
  case atStart => exact ⟨0, Nat.zero_le _, rfl, World.ownsRow_nil _ _ _ _, Below.refl _ _, (by show _ = _; simp)⟩
  case round =>
    obtain ⟨k, hk, rfl, HO, HB, HY⟩ := hrel
    rename World => wr
    by_cases hlt : k < ws.length
    · have hki : (k : Int) < (ws.length : Int) := by omega
      obtain ⟨g, o, rfl, z0⟩ := HZ.out k hlt
      obtain ⟨x, hx⟩ : ∃ x, ws[k] = x := ⟨_, rfl⟩
      rw [hx] at z0
      have HXM := hide (show x ∈ ws from hx ▸ List.getElem_mem hlt)
      have HXK := hide hx
      have hxl := HS.out x HXM.out
      have y0 := cell_later' HB.out z0
      have hly := cell_lt y0
      have HMr := hide (HM.out.later HB.out)
      have HCr := hide (cell_later' HB.out HC.out)
      have hBs := HB.out.size
      have hnl : (sb (nameE x)).size ≤ 1048576 := by rw [sb_size]; have := nameE_len x; omega
      have hsl : (sideE x).length ≤ 1048576 := by have := sideE_len x; omega
      clear z0 hx
      by_cases hsd : sideE x = [48] ∨ sideE x = [49]
      · have HSV := hide (sideV_num hsd)
        have hor : ((sb (sideE x)).toList == [48]) = true ∨ (((sb (sideE x)).toList == [48]) = false ∧ ((sb (sideE x)).toList == [49]) = true) := by
          rw [sb_toList]
          rcases hsd with h | h <;> rw [h] <;> simp
        cases hn : nm (sb (nameE x)) with
        | true =>
          have HN := hide hn
          have HOK := hide (okE_yes hsd hn)
          have HTK := hide (show ws.take (k + 1) = ws.take k ++ [x] by rw [List.take_succ_eq_append_getElem hlt, HXK.out])
          have HY2 : Hid ((ws.take (k + 1)).all okE = true) := by
            show _ = _
            rw [HTK.out, List.all_append, HY.out]
            simp [HOK.out]
          obtain ⟨zo, co, rfl⟩ : ∃ z c, u5 = .slice z k c := by
            rcases HO.out.2 with ⟨h, h0⟩ | ⟨g, cap, cur, h, _⟩
            · exact ⟨none, 0, by rw [h, h0]⟩
            · exact ⟨_, cap, h⟩
          have hml : k + 1 ≤ maxLen := by unfold maxLen; omega
          have HCE := hide (show slCells ((ws.take (k + 1)).map slE) = slCells ((ws.take k).map slE) ++ [.string (sb (nameE x)), .int .i64 (sideV x)] by rw [HTK.out, List.map_append]; simp [slCells, slE])
          clear hn hsd
          generalize (ws.take k).map slE = pre at *
          rcases hor with gA | ⟨gA, gB⟩
          all_goals
            go_wp2_with fail
            refine (cutDot_any x _ hxl HMr.out).mono ?_
            rintro e w2 ⟨⟨b2, rfl⟩, hb2⟩
            have HB2 := hide (HB.out.trans (hb2.mono HB.out.size))
            have HO2 := hide (owns_later' HO.out hb2)
            have HC2 := hide (cell_later' hb2 HCr.out)
            clear hb2 y0 hly
            go_wp2_with (first
              | (go_at_call 63; refine (want_ok _ _ _).mono ?_; rintro e w3 ⟨⟨v3, rfl⟩, hw⟩; subst hw))
            refine (name_yes br line _ hnl HC2.out HN.out).mono ?_
            rintro e w4 ⟨rfl, hb4⟩
            have HB4 := hide (HB2.out.trans (hb4.mono HB2.out.size))
            have HO4 := hide (owns_later' HO2.out hb4)
            have HC4 := hide (cell_later' hb4 HC2.out)
            have hB4s := HB4.out.size
            clear hb4
            go_wp2_with (first
              | (go_at_call 130; refine (num_yes br line _ hsl HC4.out HSV.out.1).mono ?_; rintro e w5 ⟨rfl, hw⟩; subst hw; rw [HSV.out.2])
              | (at_builtin; (refine wpList_append_lies _ rfl _ _ _ rfl w.heap.size 258 iE _ 2 24 Tryz.underlying233 HI.out H0.out H1.out H2.out rfl (by omega) _ k (slCells pre) rfl (HO4.out.alloc _) ⟨_, 0, none⟩ 1 1 [.string (sb (nameE x)), .int .i64 (sideV x)] rfl rfl (newsAt rfl) (by simp [Value.oneCell']) (by omega) hml (by omega) (by simp; omega) _ rfl ?_); intro g2 cp2 w7 hown2 hgrow2 hgg _; have HO7 := hide hown2; have HG7 := hide hgrow2))
            all_goals
              have HBN := hide ((HB4.out.alloc HB4.out.size (.cells #[.string (sb (nameE x)), .int .i64 (sideV x)] 258)).grown HG7.out (by have := HB4.out.size; simp; omega) (fun k e => (HO4.out.lt k e).1))
              have HON : Hid (w7.ownsRow w.heap.size 258 2 (.slice (some ⟨g2, 0, none⟩) (k + 1) cp2) (k + 1) (slCells ((ws.take (k + 1)).map slE))) := by
                show World.ownsRow _ _ _ _ _ _ _
                rw [HCE.out]
                exact HO7.out
              go_wp2_with fail
              go_roundw
              case rel => exact ⟨k + 1, by omega, by go_num, HON, HBN, HY2⟩
              case measure => simp [intOf]; omega
        | false =>
          have HN := hide hn
          have HR := hide (all_false HXM.out (okE_nm hn))
          clear hn hsd
          rcases hor with gA | ⟨gA, gB⟩
          all_goals
            go_wp2_with fail
            refine (cutDot_any x _ hxl HMr.out).mono ?_
            rintro e w2 ⟨⟨b2, rfl⟩, hb2⟩
            have HB2 := hide (HB.out.trans (hb2.mono HB.out.size))
            have HC2 := hide (cell_later' hb2 HCr.out)
            clear hb2 y0 hly
            go_wp2_with (first
              | (go_at_call 63; refine (want_ok _ _ _).mono ?_; rintro e w3 ⟨⟨v3, rfl⟩, hw⟩; subst hw))
            refine (name_no br line _ hnl HC2.out HN.out).mono ?_
            rintro e w4 ⟨rfl, hb4⟩
            exact ⟨rfl, .inr ⟨HR.out, rfl⟩, HB2.out.trans (hb4.mono HB2.out.size)⟩
      · have HR := hide (all_false HXM.out (okE_false hsd))
        have gA : ((sb (sideE x)).toList == [48]) = false := by rw [sb_toList, beq_eq_false_iff_ne]; exact fun h => hsd (.inl h)
        have gB : ((sb (sideE x)).toList == [49]) = false := by rw [sb_toList, beq_eq_false_iff_ne]; exact fun h => hsd (.inr h)
        clear hsd
        go_wp2_with fail
        refine (cutDot_any x _ hxl HMr.out).mono ?_
        rintro e w2 ⟨⟨b2, rfl⟩, hb2⟩
        have HB2 := hide (HB.out.trans (hb2.mono HB.out.size))
        have HC2 := hide (cell_later' hb2 HCr.out)
        clear hb2 y0 hly
        go_wp2_with (first
          | (go_at_call 63; refine (want_noR br 1 line _ HC2.out).mono ?_; rintro e w3 ⟨rfl, hw⟩; subst hw))
        exact ⟨rfl, .inr ⟨HR.out, rfl⟩, HB2.out⟩
    · obtain rfl : k = ws.length := by omega
      have hO' := HO.out
      have hY' := HY.out
      rw [List.take_length] at hO' hY'
      have HO' := hide hO'
      have HY' := hide hY'
      clear hO' hY' hlt hk
      go_wp2_with fail
      go_ret
      exact ⟨.inl ⟨HY'.out, _, rfl, HO'.out⟩, HB.out⟩
end Go.Proofs.YtcodpnkfpmjleaaGreatDoor

import Derived.Test.YtjagfeihmnagkaaGreatDoorMxAC
import Derived.Test.YtjagfeihmnagkaaGreatDoorTo
import Derived.Test.YtjagfeihmnagkaaGreatDoorRnS
namespace Go.Proofs.YtjagfeihmnagkaaGreatDoor
open Go.RowKit
set_option maxHeartbeats 400000

theorem l1end_any (a a' : Option Addr) (n m cap cap' : Nat) (p s : Int) (w : World) (hn : n ≤ 1048576) :
    Calls Tryz.prog 41 #[.agg #[.slice a n cap, .slice a' m cap'], .agg #[.int .i64 p, .int .i64 s]] w fun e w' =>
    e = .returned (.bool (endOk n (p, s))) ∧ Below w.heap.size w w' := by
  cases h : inR p 0 ((n : Int) - 1)
  · have H := hide h
    clear h
    go_enter Tryz.func41, Tryz.ntmps41
    go_wp2_with fail
    refine (l1in_any _ _ _ _).mono ?_
    rintro e w1 ⟨rfl, rfl⟩
    rw [H.out]
    go_wp2_with fail
    go_ret
    exact ⟨ret_b (by simp [endOk, H.out]), ((Below.refl _ _).alloc (Nat.le_refl _) _).alloc (by simp) _⟩
  · have H := hide h
    clear h
    go_enter Tryz.func41, Tryz.ntmps41
    go_wp2_with fail
    refine (l1in_any _ _ _ _).mono ?_
    rintro e w1 ⟨rfl, rfl⟩
    rw [H.out]
    go_wp2_with fail
    refine (l1in_any _ _ _ _).mono ?_
    rintro e w1 ⟨rfl, rfl⟩
    go_wp2_with fail
    go_ret
    exact ⟨ret_b (by simp [endOk, H.out]), ((Below.refl _ _).alloc (Nat.le_refl _) _).alloc (by simp) _⟩

theorem uses_le (js : List Jt) (e : Int × Int) (h : ∀ j ∈ js, j.ends.length ≤ 1048576) : uses js e ≤ js.length * 1048576 := by
  induction js with
  | nil => simp [uses, allEnds]
  | cons j js ih =>
    have h1 := ih (fun x hx => h x (List.mem_cons_of_mem _ hx))
    have h2 := h j (List.mem_cons_self ..)
    have h3 := List.count_le_length (a := e) (l := j.ends)
    simp only [uses, allEnds, List.flatMap_cons, List.count_append, List.length_cons] at *
    omega

theorem uses_snoc (js : List Jt) (k : Nat) (hk : k < js.length) (e : Int × Int) : uses (js.take (k + 1)) e = uses (js.take k) e + js[k].ends.count e := by
  unfold uses allEnds
  rw [List.take_succ_eq_append_getElem hk, List.flatMap_append, List.count_append, List.flatMap_singleton]

theorem count_snoc (es : List (Int × Int)) (k : Nat) (hk : k < es.length) (e : Int × Int) : (es.take (k + 1)).count e = (es.take k).count e + if es[k] = e then 1 else 0 := by
  rw [List.take_succ_eq_append_getElem hk, List.count_append, List.count_singleton]
  simp

theorem l1uses_any (a a' : Option Addr) (n cap cap' : Nat) (js : List Jt) (p s : Int) (w : World) (hn : js.length ≤ 1048576) (hm : ∀ j ∈ js, j.ends.length ≤ 1048576) (hj : JtsAt w a' js) :
    Calls Tryz.prog 24 #[.agg #[.slice a n cap, .slice a' js.length cap'], .agg #[.int .i64 p, .int .i64 s]] w fun e w' =>
    e = .returned (.int .i64 (uses js (p, s))) ∧ Below w.heap.size w w' := by
  have HJ := hide hj
  have HM := hide hm
  clear hj hm
  go_enter Tryz.func24, Tryz.ntmps24
  go_wp2
  have hbW : Below w.heap.size w ((w.alloc (.cells #[.slice a n cap, .slice a' js.length cap'] 25)).alloc (.cells #[.int .i64 p, .int .i64 s] 60)) := ((Below.refl _ _).alloc (Nat.le_refl _) _).alloc (by simp) _
  go_loopw [5, 7, 9, 13] (fun q _ _ i wr => ∃ (k : Nat) (c : Nat), k ≤ js.length ∧ i = .int .i64 k ∧ q = .int .i64 c ∧ Hid (c = uses (js.take k) (p, s)) ∧ wr.cell? ⟨w.heap.size + 1, 0, none⟩ = some (.int .i64 p) ∧ wr.cell? ⟨w.heap.size + 1, 1, none⟩ = some (.int .i64 s) ∧ w.heap.size + 2 ≤ wr.heap.size ∧ Below w.heap.size w wr) (fun _ _ _ i _ => js.length - (intOf i).toNat)
  case atStart => exact ⟨0, 0, Nat.zero_le _, rfl, rfl, rfl, by simp [go_sem], by simp [go_sem], by simp, hbW⟩
  case round =>
    obtain ⟨k, c, hk, rfl, rfl, hc, e0, e1, hz, hb⟩ := hrel
    by_cases hlt : k < js.length
    · obtain ⟨b, off, ea, ec, rfl, c0, c1, c2, ce⟩ := (JtsAt.later HJ.out hb) k hlt
      have CE := hide ce
      have hm := HM.out _ (List.getElem_mem hlt)
      have hcb : c ≤ k * 1048576 := by
        rw [hc.out]
        have := uses_le (js.take k) (p, s) (fun j hj => HM.out j (List.mem_of_mem_take hj))
        rw [List.length_take_of_le hk] at this
        exact this
      clear ce
      go_wp2
      have hbA : Below wr.heap.size wr (wr.alloc (Obj.cells #[Value.int IntKind.i64 js[k].kind, Value.string js[k].name, Value.slice ea js[k].ends.length ec] 58)) := (Below.refl _ _).alloc (Nat.le_refl _) _
      go_loopw [5, 20] (fun q i wi => ∃ (t : Nat) (c' : Nat), t ≤ js[k].ends.length ∧ i = .int .i64 t ∧ q = .int .i64 c' ∧ Hid (c' = c + (js[k].ends.take t).count (p, s)) ∧ Below wr.heap.size wr wi) (fun _ i _ => js[k].ends.length - (intOf i).toNat)
      case atStart => exact ⟨0, c, Nat.zero_le _, rfl, rfl, by simp [Hid], hbA⟩
      case round =>
        obtain ⟨t, c', ht, rfl, rfl, hc', hbi⟩ := hrel
        have hcb' : c' ≤ k * 1048576 + 1048576 := by
          rw [hc'.out]
          have := List.count_le_length (a := (p, s)) (l := js[k].ends.take t)
          rw [List.length_take_of_le ht] at this
          omega
        have e0' := cell_keep hbi (by omega) e0
        have e1' := cell_keep hbi (by omega) e1
        by_cases hti : t < js[k].ends.length
        · obtain ⟨b2, off2, rfl, d0, d1⟩ := (EndsAt.later CE.out hbi) t hti
          have hzi : w.heap.size + 1 < wr.heap.size := Nat.lt_of_lt_of_le (Nat.lt_of_lt_of_le (by omega) hz) hbi.size
          have hcs := hide (count_snoc js[k].ends t hti (p, s))
          go_wp2
          · refine ⟨⟨t + 1, c' + 1, by omega, by go_num, by go_num, ?_, hbi.alloc hbi.size _⟩, by simp [intOf]; omega⟩
            show c' + 1 = _
            rw [hcs.out, if_pos (Prod.ext ‹_› ‹_›), hc'.out]; omega
          · refine ⟨⟨t + 1, c', by omega, by go_num, rfl, ?_, hbi.alloc hbi.size _⟩, by simp [intOf]; omega⟩
            show c' = _
            rw [hcs.out, if_neg (fun h => ‹¬ _› (congrArg Prod.snd h)), hc'.out]; omega
          · refine ⟨⟨t + 1, c', by omega, by go_num, rfl, ?_, hbi.alloc hbi.size _⟩, by simp [intOf]; omega⟩
            show c' = _
            rw [hcs.out, if_neg (fun h => ‹¬ _› (congrArg Prod.fst h)), hc'.out]; omega
        · go_wp2
          go_roundw
          case rel =>
            refine ⟨k + 1, c', by omega, by go_num, rfl, ?_, e0', e1', Nat.le_trans hz hbi.size, hb.trans (hbi.mono hb.size)⟩
            rw [uses_snoc js k hlt, hc'.out, hc.out, List.take_of_length_le (l := js[k].ends) (by omega)]
            rfl
          case measure => simp [intOf]; omega
    · go_wp2
      go_ret
      refine ⟨?_, hb⟩
      rw [hc.out, List.take_of_length_le (by omega)]
      rfl
end Go.Proofs.YtjagfeihmnagkaaGreatDoor

/- spec: numbers, pieces, ends of a text. Own work. -/
namespace Go.Proofs.YtjagfeihmnagkaaGreatDoor
open Go.RowKit
set_option maxHeartbeats 2000000
set_option maxRecDepth 100000

theorem all_snoc {s : ByteArray} {k : Nat} (hk : k < s.size) (f : UInt8 → Bool) : ((bs s).take (k + 1)).all f = (((bs s).take k).all f && f s[k]) := by
  have hk' : k < (bs s).length := by rw [bs_len]; exact hk
  rw [List.take_succ_eq_append_getElem hk', List.all_append]
  simp [bs]
  rfl
theorem val_snoc {s : ByteArray} {k : Nat} (hk : k < s.size) : valD ((bs s).take (k + 1)) = 10 * valD ((bs s).take k) + ((s[k].toNat : Int) - 48) := by
  have hk' : k < (bs s).length := by rw [bs_len]; exact hk
  rw [List.take_succ_eq_append_getElem hk', valD_snoc]
  simp [bs]
  rfl
theorem num_bad {s : ByteArray} {k : Nat} (hk : k < s.size) (h : isD s[k] = false) : numOk (bs s) = false := by
  have : (bs s).all isD = false := by
    rw [List.all_eq_false]
    exact ⟨s[k], by show s.data[k] ∈ s.data.toList; simp, by rw [h]; simp⟩
  simp [numOk, this]
theorem num_at {s : ByteArray} (h0 : 0 < s.size) : (bs s).head? = some s[0] := by
  have h0' : 0 < (bs s).length := by rw [bs_len]; exact h0
  rw [List.head?_eq_getElem?, List.getElem?_eq_getElem h0']
  simp [bs]
  rfl
theorem num_end {s : ByteArray} (h : (bs s).all isD = true) : numOk (bs s) = (decide (1 ≤ s.size) && (decide (s.size ≤ 8) && (decide ((bs s).head? ≠ some 48) || decide (s.size = 1)))) := by
  simp only [numOk, h, Bool.true_and, bs_len, Bool.and_assoc]
theorem l2num_any (s : ByteArray) (w : World) (hs : s.size ≤ 1048576) :
    Calls Tryz.prog 20 #[.string s] w fun e w' => ∃ n : Int, e = .returned (.tuple #[.int .i64 n, .bool (numOk (bs s))]) ∧ (numOk (bs s) = true → n = valD (bs s)) ∧ w = w' := by
  go_enter Tryz.func20, Tryz.ntmps20
  go_wp2_with fail
  go_loop [4, 5] (fun q4 q5 => ∃ (k : Nat) (n : Int), k ≤ s.size ∧ q5 = .int .i64 k ∧ q4 = .int .i64 n ∧ Hid (((bs s).take k).all isD = true) ∧ Hid (k ≤ 8 → n = valD ((bs s).take k))) (fun _ q5 => s.size - (intOf q5).toNat)
  case atStart => exact ⟨0, 0, Nat.zero_le _, rfl, rfl, (by show _ = _; simp), (fun _ => by simp [valD])⟩
  case round =>
    obtain ⟨k, n, hk, rfl, rfl, HA, HV⟩ := hrel
    by_cases hlt : k < s.size
    · have hki : (k : Int) < (s.size : Int) := by omega
      have HS := hide (all_snoc hlt isD)
      have HW := hide (val_snoc hlt)
      have HBD := hide (fun h => num_bad hlt h)
      have hc256 : s[k].toNat < 256 := UInt8.toNat_lt _
      by_cases c0 : (s[k].toNat : Int) < 48
      · have g0 : decide ((s[k].toNat : Int) < 48) = true := decide_eq_true c0
        have HN := hide (HBD.out (by simp only [isD, Bool.and_eq_false_iff, decide_eq_false_iff_not]; omega))
        clear c0
        go_wp2_with fail
        go_ret2
        exact ⟨0, by rw [HN.out]; rfl, (fun h => by rw [HN.out] at h; cases h), rfl⟩
      · have g0 : decide ((s[k].toNat : Int) < 48) = false := decide_eq_false c0
        by_cases c9 : (s[k].toNat : Int) > 57
        · have g9 : decide ((s[k].toNat : Int) > 57) = true := decide_eq_true c9
          have HN := hide (HBD.out (by simp only [isD, Bool.and_eq_false_iff, decide_eq_false_iff_not]; omega))
          clear c9 c0
          go_wp2_with fail
          go_ret2
          exact ⟨0, by rw [HN.out]; rfl, (fun h => by rw [HN.out] at h; cases h), rfl⟩
        · have g9 : decide ((s[k].toNat : Int) > 57) = false := decide_eq_false c9
          have HD := hide (show isD s[k] = true by simp only [isD, Bool.and_eq_true, decide_eq_true_eq]; omega)
          have hu : IntKind.u8.wrap ((s[k].toNat : Int) - 48) = (s[k].toNat : Int) - 48 := by rw [IntKind.wrap_u8]; omega
          have hu2 : IntKind.i64.wrap ((s[k].toNat : Int) - 48) = (s[k].toNat : Int) - 48 := by rw [IntKind.wrap_i64]; omega
          have HB := hide (valD_bd ((bs s).take k) HA.out)
          have HNV : Hid (k + 1 ≤ 8 → wrap64 (wrap64 (10 * n) + ((s[k].toNat : Int) - 48)) = valD ((bs s).take (k + 1))) := fun h8 => by
            have h1 := HV.out (by omega)
            have h2 := HB.out
            have h3 : ((bs s).take k).length ≤ 7 := by rw [List.length_take]; omega
            have h4 : (10 : Int) ^ ((bs s).take k).length ≤ 10 ^ 7 := by exact_mod_cast Nat.pow_le_pow_right (by omega) h3
            have h5 : (10 : Int) ^ 7 = 10000000 := by decide
            rw [HW.out, h1]
            rw [show wrap64 (10 * valD ((bs s).take k)) = 10 * valD ((bs s).take k) by unfold wrap64; omega]
            unfold wrap64
            omega
          have HA2 : Hid (((bs s).take (k + 1)).all isD = true) := by show _ = _; rw [HS.out, HA.out, HD.out]; rfl
          clear c0 c9 HBD
          go_wp2_with fail
          go_roundw
          case rel => exact ⟨k + 1, _, by omega, by go_num, rfl, HA2, HNV⟩
          case measure => simp [intOf]; omega
    · obtain rfl : k = s.size := by omega
      have hA := HA.out
      have hV := HV.out
      rw [show (bs s).take s.size = bs s by rw [← bs_len]; simp] at hA hV
      have HE := hide (num_end hA)
      have HV2 := hide hV
      clear hA hV HA HV
      by_cases h1 : (1 : Int) ≤ (s.size : Int)
      · have g1 : decide ((s.size : Int) ≥ 1) = true := decide_eq_true h1
        have h0 : 0 < s.size := by omega
        have h0i : (0 : Int) < (s.size : Int) := by omega
        have HH := hide (num_at h0)
        have HU := hide (show s[0] = 48 ↔ s[0].toNat = 48 from u8_eq)
        by_cases h8 : (s.size : Int) ≤ 8
        · have g8 : decide ((s.size : Int) ≤ 8) = true := decide_eq_true h8
          have h88 : s.size ≤ 8 := by omega
          by_cases c0 : s[0].toNat = 48
          · have g0 : ((s[0].toNat : Int) != 48) = false := by simp; omega
            by_cases h11 : s.size = 1
            · have g11 : ((s.size : Int) == 1) = true := by rw [beq_iff_eq]; omega
              have HR := hide (show numOk (bs s) = true by rw [HE.out]; simp [h11])
              clear h1 h8 c0 h11
              go_wp2_with fail
              go_ret2
              exact ⟨n, by rw [HR.out]; rfl, fun _ => HV2.out (by omega), rfl⟩
            · have g11 : ((s.size : Int) == 1) = false := by rw [beq_eq_false_iff_ne]; omega
              have HR := hide (show numOk (bs s) = false by rw [HE.out, HH.out, HU.out.2 c0]; simp [h11])
              clear h1 h8 c0 h11
              go_wp2_with fail
              go_ret2
              exact ⟨n, by rw [HR.out]; rfl, (fun h => by rw [HR.out] at h; cases h), rfl⟩
          · have g0 : ((s[0].toNat : Int) != 48) = true := by simp; omega
            have HR := hide (show numOk (bs s) = true by
              rw [HE.out, HH.out, decide_eq_true (show 1 ≤ s.size by omega), decide_eq_true (show s.size ≤ 8 by omega), decide_eq_true (show some s[0] ≠ some 48 from fun h => c0 (HU.out.1 (Option.some.inj h)))]
              rfl)
            clear h1 h8 c0
            go_wp2_with fail
            go_ret2
            exact ⟨n, by rw [HR.out]; rfl, fun _ => HV2.out h88, rfl⟩
        · have g8 : decide ((s.size : Int) ≤ 8) = false := decide_eq_false h8
          have HR := hide (show numOk (bs s) = false by rw [HE.out, decide_eq_false (show ¬ s.size ≤ 8 by omega)]; simp)
          clear h1 h8
          go_wp2_with fail
          go_ret2
          exact ⟨n, by rw [HR.out]; rfl, (fun h => by rw [HR.out] at h; cases h), rfl⟩
      · have g1 : decide ((s.size : Int) ≥ 1) = false := decide_eq_false h1
        have HR := hide (show numOk (bs s) = false by rw [HE.out, decide_eq_false (show ¬ 1 ≤ s.size by omega)]; rfl)
        clear h1
        go_wp2_with fail
        go_ret2
        exact ⟨n, by rw [HR.out]; rfl, (fun h => by rw [HR.out] at h; cases h), rfl⟩
def ixV (o : Option Nat) : Int := match o with | none => -1 | some i => i
theorem findIdx_none {N : Nt} {name : ByteArray} (h : ∀ i (hi : i < N.pcs.length), (N.pcs[i].name.toList == name.toList) = false) : pieceIx N name = none := by
  unfold pieceIx
  rw [List.findIdx?_eq_none_iff]
  intro p hp
  obtain ⟨i, hi, rfl⟩ := List.getElem_of_mem hp
  exact h i hi
theorem findIdx_some {N : Nt} {name : ByteArray} {k : Nat} (hk : k < N.pcs.length) (h : ∀ i (hi : i < N.pcs.length), i < k → (N.pcs[i].name.toList == name.toList) = false) (he : (N.pcs[k].name.toList == name.toList) = true) : pieceIx N name = some k := by
  unfold pieceIx
  rw [List.findIdx?_eq_some_iff_getElem]
  exact ⟨hk, he, fun j hj => by rw [h j (by omega) hj]; simp⟩
theorem l2piece_any (a a' : Option Addr) (N : Nt) (cap m cap' : Nat) (name : ByteArray) (w : World) (hn : N.pcs.length ≤ 1048576) (hp : PcsAt w a N.pcs) :
    Calls Tryz.prog 21 #[.agg #[.slice a N.pcs.length cap, .slice a' m cap'], .string name] w fun e w' => e = .returned (.int .i64 (ixV (pieceIx N name))) ∧ Below w.heap.size w w' := by
  have HP := hide hp
  have hbW : Below w.heap.size w (w.alloc (.cells #[.slice a N.pcs.length cap, .slice a' m cap'] 25)) := (Below.refl _ _).alloc (Nat.le_refl _) _
  have HBW := hide hbW
  clear hp hbW
  go_enter Tryz.func21, Tryz.ntmps21
  go_wp2_with fail
  go_loopw [5, 6, 10] (fun _ _ i wr => ∃ (k : Nat), k ≤ N.pcs.length ∧ i = .int .i64 k ∧ Hid (∀ i (hi : i < N.pcs.length), i < k → (N.pcs[i].name.toList == name.toList) = false) ∧ Hid (Below w.heap.size w wr)) (fun _ _ i _ => N.pcs.length - (intOf i).toNat)
  case atStart => exact ⟨0, Nat.zero_le _, rfl, (fun i hi h => by omega), HBW⟩
  case round =>
    obtain ⟨k, hk, rfl, HNO, HB⟩ := hrel
    clear HBW
    by_cases hlt : k < N.pcs.length
    · have hki : (k : Int) < (N.pcs.length : Int) := by omega
      obtain ⟨b, off, rfl, c0, c1, c2, c3⟩ := (HP.out.later HB.out) k hlt
      have hlb := cell_lt c0
      have HA := hide (HB.out.alloc HB.out.size (.cells #[.string N.pcs[k].name, .int .i64 N.pcs[k].len, .int .i64 N.pcs[k].speed, .int .i64 N.pcs[k].brake] 55))
      cases he : (N.pcs[k].name.toList == name.toList) with
      | true =>
        have HR := hide (findIdx_some hlt HNO.out he)
        go_wp2_with fail
        go_ret
        exact ⟨by rw [HR.out]; rfl, HA.out⟩
      | false =>
        have HN2 : Hid (∀ i (hi : i < N.pcs.length), i < k + 1 → (N.pcs[i].name.toList == name.toList) = false) := fun i hi h => by
          by_cases e : i = k
          · subst e; exact he
          · exact HNO.out i hi (by omega)
        go_wp2_with fail
        go_roundw
        case rel => exact ⟨k + 1, by omega, by go_num, HN2, HA⟩
        case measure => simp [intOf]; omega
    · obtain rfl : k = N.pcs.length := by omega
      have HR := hide (findIdx_none (fun i hi => HNO.out i hi hi))
      go_wp2_with fail
      go_ret
      exact ⟨by rw [HR.out]; rfl, HB.out⟩
end Go.Proofs.YtjagfeihmnagkaaGreatDoor

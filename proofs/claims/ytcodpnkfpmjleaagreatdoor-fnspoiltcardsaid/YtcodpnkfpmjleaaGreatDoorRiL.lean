/- impl: a line that tells a joint. Own work. -/
import Derived.Test.YtcodpnkfpmjleaaGreatDoorMxAX
import Derived.Deep.CutRange
namespace Go.Proofs.YtcodpnkfpmjleaaGreatDoor
open Go.RowKit Go.Maps Go.Joins Go.Sort
set_option maxHeartbeats 8000000
set_option maxRecDepth 100000

/-- What a line leaves behind. -/
def LinePost (base br bp be bn : Nat) (pv0 jv0 : Value) (line : Int) (w : World) (c : Int) (N2 : Nt) (e : Ending) (w' : World) : Prop :=
  ((c = 0 ∧ (∃ v, e = .returned v) ∧ ∃ pv jv js, RBk base w' br line pv jv N2.pcs js bp be bn ∧ js.map (fun t : Jr => t.jt) = N2.jts) ∨ (c ≠ 0 ∧ e = .panicked (leaveC c line))) ∧ On (Chg br bp be bn pv0 jv0) w w'
theorem linePost_no {base br bp be bn : Nat} {pv jv : Value} {line : Int} {w w' : World} {c : Int} {N2 : Nt} (hc : c ≠ 0) (hb : Below w.heap.size w w')   : LinePost base br bp be bn pv jv line w c N2 (.panicked (leaveC c line)) w' :=
  ⟨.inr ⟨hc, rfl⟩, On.of_below hb⟩
/-- The joint's box while its line is read. -/
structure JBo (wr : World) (bX kd : Nat) (name : Bl) (ev : Value) : Prop where
  j0 : wr.cell? ⟨bX, 0, none⟩ = some (.int .i64 kd)
  j1 : wr.cell? ⟨bX, 1, none⟩ = some (.string (sb name))
  j2 : wr.cell? ⟨bX, 2, none⟩ = some ev
  f : ∀ o, wr.frozen? ⟨bX, o, none⟩ = false
theorem JBo.later {wr w' : World} {bX kd : Nat} {name : Bl} {ev : Value} (h : JBo wr bX kd name ev) (hb : Below wr.heap.size wr w') : JBo w' bX kd name ev :=
  ⟨cell_later' hb h.j0, cell_later' hb h.j1, cell_later' hb h.j2, fun o => by rw [hb.frozen (p := ⟨bX, o, none⟩) (cell_lt h.j0)]; exact h.f o⟩
theorem JBo.on {S : Nat → Prop} {wr w' : World} {bX kd : Nat} {name : Bl} {ev : Value} (h : JBo wr bX kd name ev) (ho : On S wr w') (hS : ¬ S bX) : JBo w' bX kd name ev :=
  ⟨ho.cell hS h.j0, ho.cell hS h.j1, ho.cell hS h.j2, fun o => (ho.frozen (cell_lt h.j0) hS).trans (h.f o)⟩
theorem JBo.set1 {wr : World} {bX kd : Nat} {name : Bl} {ev : Value} (h : JBo wr bX kd name ev) (n2 : Bl) : JBo (wr.setCell ⟨bX, 1, none⟩ (.string (sb n2))) bX kd n2 ev :=
  ⟨(box_set (by omega) _).trans h.j0, World.cell?_setCell_same _ _ _ h.j1, (box_set (by omega) _).trans h.j2, fun o => (World.frozen?_setCell _ _ _ _).trans (h.f o)⟩
theorem JBo.set2 {wr : World} {bX kd : Nat} {name : Bl} {ev : Value} (h : JBo wr bX kd name ev) (e2 : Value) : JBo (wr.setCell ⟨bX, 2, none⟩ e2) bX kd name e2 :=
  ⟨(box_set (by omega) _).trans h.j0, (box_set (by omega) _).trans h.j1, World.cell?_setCell_same _ _ _ h.j2, fun o => (World.frozen?_setCell _ _ _ _).trans (h.f o)⟩
theorem strs_tail {w : World} {b o : Nat} {a : Bl} {es : List Bl} (h : StrsAtR w (some ⟨b, o, none⟩) (a :: es)) : StrsAtR w (some ⟨b, o + 1, none⟩) es := fun k hk => by
  obtain ⟨b', o', e, c⟩ := h (k + 1) (by simpa using hk)
  obtain ⟨rfl, rfl⟩ : b = b' ∧ o = o' := by simpa using e
  refine ⟨b, o + 1, rfl, ?_⟩
  rw [show o + 1 + k = o + (k + 1) by omega]
  simpa using c
def NmBig (big : Bool) (name : Bl) : Prop := (big = false ∧ name = []) ∨ (big = true ∧ nm (sb name) = true)
theorem namesJ_no {js : List Jt} {kd : Nat} {name : ByteArray} {E : List (Int × Int)} (h : ¬ 3 ≤ kd) : namesJ (js ++ [⟨kd, name, E⟩]) = namesJ js := by
  unfold namesJ
  rw [List.filter_append]
  have : ¬ (3 : Int) ≤ (kd : Int) := by omega
  simp [this]
theorem namesJ_yes {js : List Jt} {kd : Nat} {name : ByteArray} {E : List (Int × Int)} (h : 3 ≤ kd) : namesJ (js ++ [⟨kd, name, E⟩]) = namesJ js ++ [bs name] := by
  unfold namesJ
  rw [List.filter_append]
  have : (3 : Int) ≤ (kd : Int) := by omega
  simp [this]
theorem readJoint_any (br base bp be bn kd : Nat) (z : Option Addr) (cz : Nat) (ws : List Bl) (line : Int) (pv jv : Value) (ps : List Pc) (js : List Jr) (w : World) (hk : 1 ≤ kd ∧ kd ≤ 4) (hn : ps.length ≤ 100000) (hj : js.length ≤ 100000) (hJ : JNm (js.map (·.jt))) (hne : (allEnds (js.map (·.jt))).length ≤ 500000) (hnn : (namesJ (js.map (·.jt))).length ≤ 100000) (hs : ∀ x ∈ ws, x.length ≤ 1048576) (hl : ws.length ≤ 1048576) (hcz : ws.length ≤ cz) (hM : MX w) (hR : RBk base w br line pv jv ps js bp be bn) (hz : StrsAtR w z ws) :
    Calls Tryz.prog 102 #[.pointer (some ⟨br, 0, none⟩), .int .i64 kd, .slice z ws.length cz] w (LinePost base br bp be bn pv jv line w (jointR ⟨ps, js.map (·.jt)⟩ kd ws).1 (jointR ⟨ps, js.map (·.jt)⟩ kd ws).2) := by
  obtain ⟨T, Fn, Fs, k1, k2, k3, k4, k5, k6, k7⟩ := kind_facts kd hk
  have K1 := hide k1
  have K6 := hide k6
  have K7 := hide k7
  have HR := hide hR
  have HZ := hide hz
  have HS := hide hs
  have HM := hide hM
  have HJN := hide hJ
  have hlb := cell_lt hR.c0
  clear k1 k6 k7 hR hz hs hM hJ
  generalize hNN : (⟨ps, js.map (·.jt)⟩ : Nt) = N
  have hps : N.pcs = ps := by rw [← hNN]
  subst hps
  have HJJ := hide (show js.map (·.jt) = N.jts by rw [← hNN])
  clear hNN
  have HA1 := hide (bS0 w (.cells #[.int .i64 kd, .string ⟨#[]⟩, .slice none 0 0] 69))
  have HJ1 : Hid (JBo (w.alloc (.cells #[.int .i64 kd, .string ⟨#[]⟩, .slice none 0 0] 69)) w.heap.size kd [] (.slice none 0 0)) := ⟨new_cell _ _ _ 0 _ rfl, new_cell _ _ _ 1 _ rfl, new_cell _ _ _ 2 _ rfl, fun o => by simp [go_sem]⟩
  go_enter Tryz.func102, Tryz.ntmps102
  go_wp2_with (first
    | (go_at_call 61; refine (K1.out _).mono ?_; rintro e w2 ⟨rfl, hw⟩; subst hw))
  refine (K6.out _).mono ?_
  rintro e w2 ⟨rfl, hb2⟩
  have HB2 := hide (chnB HA1.out hb2)
  have HJ2 := hide (HJ1.out.later hb2)
  clear hb2 HA1 HJ1 K1
  obtain ⟨big, hbig⟩ : ∃ big : Bool, decide (3 ≤ kd) = big := ⟨_, rfl⟩
  rw [hbig]
  have HBIG := hide hbig
  clear hbig
  go_upto_if 13 with fail
  go_cut [2] from 14 (fun s2 wx => ∃ (name : Bl) (es : List Bl) (z9 : Option Addr) (c9 : Nat), s2 = .slice z9 es.length c9 ∧ es.length ≤ ws.length ∧ name.length ≤ 1048576 ∧ Hid (Below w.heap.size w wx) ∧ Hid (JBo wx w.heap.size kd name (.slice none 0 0)) ∧ Hid (StrsAtR wx z9 es) ∧ Hid (∀ x ∈ es, x ∈ ws) ∧ Hid (NmBig big name) ∧ Hid (jointR N kd ws = jointE N kd (sb name) es))
  case first =>
    cases big with
    | false =>
      have h3 : kd < 3 := by have := of_decide_eq_false HBIG.out; omega
      have HQ := hide (show jointR N kd ws = jointE N kd (sb []) ws by unfold jointR; rw [if_pos h3])
      have HZ2 := hide (HZ.out.later HB2.out)
      clear h3
      go_wp2_with fail
      go_meet
      case rel => exact ⟨[], ws, z, cz, rfl, Nat.le_refl _, by simp, HB2, HJ2, HZ2, (fun x hx => hx), .inl ⟨rfl, rfl⟩, HQ⟩
    | true =>
      have h3 : ¬ kd < 3 := by have := of_decide_eq_true HBIG.out; omega
      have HC2 := hide (RBx.later HR.out HB2.out).c0
      cases ws with
      | nil =>
        have HX := hide (show jointR N kd [] = (1, N) by unfold jointR; rw [if_neg h3])
        clear h3
        go_wp2_with (first
          | (go_at_call 63; refine (want_noR br 1 line _ HC2.out).mono ?_; rintro e w3 ⟨rfl, hw⟩; subst hw))
        rw [HX.out]
        exact ⟨rfl, linePost_no (show (1 : Int) ≠ 0 by decide) HB2.out⟩
      | cons a es =>
        obtain ⟨b, o, rfl, c0⟩ := (HZ.out.later HB2.out) 0 (by simp)
        have HZ2 := hide (HZ.out.later HB2.out)
        simp only [List.getElem_cons_zero, Nat.add_zero] at c0
        have hlc := cell_lt c0
        have hsa : (sb a).size ≤ 1048576 := by rw [sb_size]; exact HS.out a (by simp)
        have hla : a.length ≤ 1048576 := HS.out a (by simp)
        cases hna : nm (sb a) with
        | false =>
          have HNA := hide hna
          have HX := hide (show jointR N kd (a :: es) = (1, N) by unfold jointR; rw [if_neg h3]; dsimp only; rw [if_neg (by rw [hna]; simp)])
          clear h3 hna
          go_wp2_with (first
            | (go_at_call 63; refine (want_ok _ _ _).mono ?_; rintro e w3 ⟨⟨v3, rfl⟩, hw⟩; subst hw)
            | (go_at_call 129; refine (name_no br line _ hsa HC2.out HNA.out).mono ?_; rintro e w3 ⟨rfl, hb3⟩))
          rw [HX.out]
          exact ⟨rfl, linePost_no (show (1 : Int) ≠ 0 by decide) (chnB HB2.out hb3)⟩
        | true =>
          have HNA := hide hna
          have HQ := hide (show jointR N kd (a :: es) = jointE N kd (sb a) es by unfold jointR; rw [if_neg h3]; dsimp only; rw [if_pos hna])
          clear h3 hna
          go_wp2_with (first
            | (go_at_call 63; refine (want_ok _ _ _).mono ?_; rintro e w3 ⟨⟨v3, rfl⟩, hw⟩; subst hw))
          refine (name_yes br line _ hsa HC2.out HNA.out).mono ?_
          rintro e w3 ⟨rfl, hb3⟩
          have HB3 := hide (chnB HB2.out hb3)
          have HJ3 := hide (HJ2.out.later hb3)
          have HZ3 := hide (HZ2.out.later hb3)
          have t0 := HJ3.out.j0
          have t1 := HJ3.out.j1
          have f1 := HJ3.out.f 1
          have hlt := cell_lt t1
          have HB4 := hide (HB3.out.setCell (p := ⟨w.heap.size, 1, none⟩) (Nat.le_refl _) (.string (sb a)))
          have HJ4 := hide (HJ3.out.set1 a)
          clear hb3 c0
          by_cases hc1 : cz = 1
          · subst hc1
            obtain rfl : es = [] := by
              cases es with
              | nil => rfl
              | cons x l => simp at hcz
            go_wp2_with fail
            go_meet
            case rel => exact ⟨a, [], _, _, rfl, by simp, hla, HB4, HJ4, strs_nil _ _, (fun x hx => by cases hx), .inr ⟨rfl, HNA.out⟩, HQ⟩
          · have HZ4 : Hid (StrsAtR (w3.setCell ⟨w.heap.size, 1, none⟩ (.string (sb a))) (some ⟨b, o + 1, none⟩) es) := fun k hk => by
              obtain ⟨b', o', e, c⟩ := strs_tail HZ.out k hk
              exact ⟨b', o', e, cell_keep HB4.out (cell_lt c) c⟩
            go_wp2_with fail
            go_meet
            case rel => exact ⟨a, es, _, _, rfl, by simp, hla, HB4, HJ4, HZ4, (fun x hx => List.mem_cons_of_mem _ hx), .inr ⟨rfl, HNA.out⟩, HQ⟩
  case rest =>
    obtain ⟨name, es, z9, c9, rfl, hle, hnl, HB, HJ, HZ9, HES, HBN, HQ⟩ := hcut
    rename World => w3
    clear HB2 HJ2 HZ
    have HR3 := hide (RBx.later HR.out HB.out)
    have HM3 := hide (HM.out.later HB.out)
    by_cases hkl : es.length = kd
    · have gkl : ((es.length : Int) == (kd : Int)) = true := by rw [beq_iff_eq]; omega
      have HKL := hide hkl
      have hle4 : es.length ≤ 4 := by omega
      clear hkl
      have HSE := hide (show ∀ x ∈ es, x.length ≤ 1048576 from fun x hx => HS.out x (HES.out x hx))
      go_wp2_with fail
      refine (K7.out _).mono ?_
      rintro e w4 ⟨rfl, hb4⟩
      have HB4 := hide (chnB HB.out hb4)
      have HR4 := hide (RBx.later HR3.out hb4)
      have HJ4 := hide (HJ.out.later hb4)
      have HZ4 := hide (HZ9.out.later hb4)
      have HM4 := hide (HM3.out.later hb4)
      clear hb4 HB HR3 HJ HZ9 HM3
      go_wp2_with (first
        | (go_at_call 63; refine (want_ok _ _ _).mono ?_; rintro e w5 ⟨⟨v5, rfl⟩, hw⟩; subst hw))
      refine (spell_any br z9 c9 es line _ (by omega) HSE.out HM4.out HR4.out.c0 HZ4.out).mono ?_
      rintro e w5 ⟨h5, hb5⟩
      have HB5 := hide (chnB HB4.out hb5)
      rcases h5 with ⟨hall, v5, rfl, hrow⟩ | ⟨hall, rfl⟩
      · have HALL := hide hall
        have HR5 := hide (RBx.later HR4.out hb5)
        have HJ5 := hide (HJ4.out.later hb5)
        obtain ⟨zs, cs, rfl, hcells⟩ := sls_at (l := es.map slE) (by rw [List.length_map]; exact hrow)
        have HCL := hide hcells
        have hlm : (es.map slE).length = es.length := List.length_map _
        rw [hlm]
        have HLM := hide hlm
        clear hall hrow hcells hb5 hlm HB4 HR4 HJ4 HZ4
        go_wp2_with fail
        have hcall := endsOf_any br bp N.pcs.length N.pcs zs cs (es.map slE) line w5 (by rw [HLM.out]; omega) (fun s hs => by obtain ⟨x, hx, rfl⟩ := List.mem_map.1 hs; show (sb (nameE x)).size ≤ 1048576; rw [sb_size]; have := nameE_len x; have := HSE.out x hx; omega) HR5.out.c0 HR5.out.c3 HR5.out.pi HCL.out
        rw [HLM.out] at hcall
        refine hcall.mono ?_
        clear hcall
        rintro e w6 ⟨h6, hb6⟩
        have HB6 := hide (chnB HB5.out hb6)
        rcases h6 with ⟨hyes, v6, rfl, hrow⟩ | ⟨hno, rfl⟩
        · obtain ⟨hlate, hends⟩ := ends_there (N := N) HALL.out hyes
          have HLATE := hide hlate
          have HENDS := hide hends
          have HWF := hide (wf_ends (ps := N.pcs) hn es)
          have hEl : ((es.map slE).map (endS N.pcs)).length = es.length := by rw [List.length_map, List.length_map]
          generalize (es.map slE).map (endS N.pcs) = E at *
          rw [← hEl] at hrow
          obtain ⟨eb, ecap, rfl, hbe, _⟩ := ends_shape hrow (by have := HKL.out; omega)
          rw [hEl]
          have HROW := hide hrow
          have HEL := hide hEl
          have hE4 : E.length ≤ 4 := by omega
          have HR6 := hide (RBx.later HR5.out hb6)
          have HJ6 := hide (HJ5.out.later hb6)
          have hw5 : w.heap.size < w5.heap.size := cell_lt HJ5.out.j0
          have hbs := HR.out.hi
          have HB7 := hide (HB6.out.setCell (p := ⟨w.heap.size, 2, none⟩) (Nat.le_refl _) (.slice (some ⟨eb, 0, none⟩) es.length ecap))
          have HJ7 := hide (HJ6.out.set2 (.slice (some ⟨eb, 0, none⟩) es.length ecap))
          have HROW7 := hide (ownsRow_setCell_below (a := ⟨w.heap.size, 2, none⟩) hrow hw5 (.slice (some ⟨eb, 0, none⟩) es.length ecap))
          have HR7 := hide (RBx.later HR.out HB7.out)
          have t2 := HJ6.out.j2
          have f2 := HJ6.out.f 2
          have hlt := cell_lt t2
          clear hlate hends hEl hrow hb6 hyes HB5 HR5 HJ5 HCL HLM HR6
          go_wp2_with fail
          clear t2 f2 hlt HJ6 HB6 HROW
          generalize w6.setCell ⟨w.heap.size, 2, none⟩ (.slice (some ⟨eb, 0, none⟩) es.length ecap) = w7 at *
          have t2 := HJ7.out.j2
          have hlt := cell_lt t2
          have hcall := takeEnds_any br be (allEnds (js.map (·.jt))).length (allEnds (js.map (·.jt))) (some ⟨eb, 0, none⟩) ecap E line w7 HWF.out (by omega) (by omega) HR7.out.c0 HR7.out.c4 HR7.out.ei (ends_at_of HROW7.out rfl)
          rw [HEL.out] at hcall
          refine hcall.mono ?_
          clear hcall
          rintro e w8 ⟨h8, hon8⟩
          have HO8 := hide ((On.of_below (S := Chg br bp be bn pv jv) HB7.out).trans (hon8.mono (fun b _ h => .inr (.inr (.inl h)))))
          rcases h8 with ⟨hcl, ⟨v8, rfl⟩, hE8⟩ | ⟨hcl, rfl⟩
          · have HQ4 := hide (jointE_four (name := sb name) HKL.out (endC_ne (N := N) HALL.out) HLATE.out (by rw [HENDS.out, clash_nil, ← HJJ.out]; exact hcl))
            rw [HENDS.out] at HQ4
            have hneX : ¬ (w.heap.size = be) := cell_no_map HJ7.out.j0 HR7.out.ei.isMap
            have HR8 := hide (HR7.out.turnE hon8 hE8)
            have HJ8 := hide (HJ7.out.on hon8 hneX)
            have hlobe := HR.out.lo.2.2.1
            have HROW8 := hide (owns_on HROW7.out hon8 (fun g hg e => by omega))
            clear hcl hE8 hon8 t2 hlt HR7 HJ7 HROW7 HB7
            go_wp2_with fail
            refine (K6.out _).mono ?_
            rintro e w9 ⟨rfl, hb9⟩
            rw [HBIG.out]
            have HR9 := hide (RBx.later HR8.out hb9)
            have HJ9 := hide (HJ8.out.later hb9)
            have HROW9 := hide (owns_later' HROW8.out hb9)
            have HO9 := hide (HO8.out.trans (On.of_below hb9))
            clear hb9 HR8 HJ8 HROW8 HO8
            go_upto_if 45 with fail
            go_cut [] from 46 (fun wx => ∃ (nn : Nat) (names : List (List UInt8)), Hid (RBx base wx br line pv jv N.pcs js bp N.pcs.length N.pcs be ((allEnds (js.map (·.jt))).length + es.length) (allEnds (js.map (·.jt)) ++ E) bn nn names) ∧ Hid (JBo wx w.heap.size kd name (.slice (some ⟨eb, 0, none⟩) es.length ecap)) ∧ Hid (wx.ownsRow w5.heap.size 75 2 (.slice (some ⟨eb, 0, none⟩) E.length ecap) E.length (endCells E)) ∧ Hid (On (Chg br bp be bn pv jv) w wx) ∧ Hid (nn = (namesJ (js.map (·.jt) ++ [⟨kd, sb name, E⟩])).length ∧ names = namesJ (js.map (·.jt) ++ [⟨kd, sb name, E⟩])) ∧ Hid (jointR N kd ws = (0, ⟨N.pcs, N.jts ++ [⟨kd, sb name, E⟩]⟩)))
            case first =>
              cases big with
              | false =>
                have h3 : ¬ 3 ≤ kd := of_decide_eq_false HBIG.out
                obtain rfl : name = [] := by
                  rcases HBN.out with h | h
                  · exact h.2
                  · cases h.1
                have HQ0 := hide (show jointR N kd ws = (0, ⟨N.pcs, N.jts ++ [⟨kd, sb [], E⟩]⟩) by rw [HQ.out, HQ4.out, if_neg (fun h => h.1 (by rw [sb_size]; rfl))])
                have HNM : Hid ((namesJ (js.map (·.jt))).length = (namesJ (js.map (·.jt) ++ [⟨kd, sb [], E⟩])).length ∧ namesJ (js.map (·.jt)) = namesJ (js.map (·.jt) ++ [⟨kd, sb [], E⟩])) := by
                  show _ ∧ _
                  rw [namesJ_no h3]
                  exact ⟨rfl, rfl⟩
                clear h3
                go_wp2_with fail
                go_meet
                case rel => exact ⟨_, _, HR9, HJ9, HROW9, HO9, HNM, HQ0⟩
              | true =>
                have h3 : 3 ≤ kd := of_decide_eq_true HBIG.out
                have HNM1 := hide (show nm (sb name) = true by
                  rcases HBN.out with h | h
                  · cases h.1
                  · exact h.2)
                have HN0 := hide (show (sb name).size ≠ 0 by rw [sb_size]; have := (nm_dot HNM1.out).2; omega)
                have HSN := hide (names_seen (HJN.out) HN0.out)
                have hsz : (sb name).size ≤ 1048576 := by rw [sb_size]; exact hnl
                have t1 := HJ9.out.j1
                have hlt := cell_lt t1
                go_wp2_with fail
                refine (takeName_any br bn (namesJ (js.map (·.jt))).length (namesJ (js.map (·.jt))) (sb name) line w9 hsz (by omega) HR9.out.c0 HR9.out.c5 HR9.out.si).mono ?_
                rintro e wa ha
                rcases ha with ⟨hs0, ⟨v0, rfl⟩, hSI, hgr⟩ | ⟨hs1, rfl, hw⟩
                · have hany := HSN.out.1.1 hs0
                  rw [HJJ.out] at hany
                  have HQ0 := hide (show jointR N kd ws = (0, ⟨N.pcs, N.jts ++ [⟨kd, sb name, E⟩]⟩) by rw [HQ.out, HQ4.out, if_neg (fun h => by rw [hany] at h; exact Bool.noConfusion h.2)])
                  have HNM : Hid ((namesJ (js.map (·.jt))).length + 1 = (namesJ (js.map (·.jt) ++ [⟨kd, sb name, E⟩])).length ∧ namesJ (js.map (·.jt)) ++ [bs (sb name)] = namesJ (js.map (·.jt) ++ [⟨kd, sb name, E⟩])) := by
                    show _ ∧ _
                    rw [namesJ_yes h3, List.length_append]
                    exact ⟨rfl, rfl⟩
                  have HOn : Hid (On (· = bn) w9 wa) := On.of_grown hgr (fun b e => (Option.some.inj e).symm)
                  have hneX : ¬ (w.heap.size = bn) := cell_no_map HJ9.out.j0 HR9.out.si.isMap
                  have hlobn := HR.out.lo.2.2.2
                  have HRa := hide (HR9.out.turnN HOn.out hSI)
                  have HJa := hide (HJ9.out.on HOn.out hneX)
                  have HROWa := hide (owns_on HROW9.out HOn.out (fun g hg e => by omega))
                  have HOa := hide (HO9.out.trans (HOn.out.mono (fun b _ h => .inr (.inr (.inr (.inl h))))))
                  clear hs0 hSI hgr hany h3 t1 hlt
                  go_wp2_with fail
                  go_meet
                  case rel => exact ⟨_, _, HRa, HJa, HROWa, HOa, HNM, HQ0⟩
                · subst hw
                  have hany := HSN.out.2.1 hs1
                  rw [HJJ.out] at hany
                  have HX := hide (show jointR N kd ws = (4, N) by rw [HQ.out, HQ4.out, if_pos ⟨HN0.out, hany⟩])
                  clear hs1 hany h3
                  go_wp2_with fail
                  rw [HX.out]
                  exact ⟨rfl, .inr ⟨show (4 : Int) ≠ 0 by decide, rfl⟩, HO9.out⟩
            case rest =>
              obtain ⟨nn, names, HRa, HJa, HROWa, HOa, HNMa, HQa⟩ := hcut
              rename World => wa
              clear HR9 HJ9 HROW9 HO9
              obtain ⟨iJ, hiJ, hJ0, hJ1, hJ2⟩ := info_parts infoJoint
              have HIJ := hide hiJ
              have HJ0' := hide hJ0
              have HJ1' := hide hJ1
              have HJ2' := hide hJ2
              obtain ⟨ja, jcap, rfl, _⟩ := kjts_at_of HRa.out.kr
              have hml : js.length + 1 ≤ maxLen := by unfold maxLen; omega
              have d2 := HRa.out.c2
              have hld := cell_lt d2
              have q0 := HJa.out.j0
              have q1 := HJa.out.j1
              have q2 := HJa.out.j2
              have hlq := cell_lt q0
              have HKd := hide (show Below wa.heap.size wa (wa.drew.alloc (.cells #[.int .i64 kd, .string (sb name), .slice (some ⟨eb, 0, none⟩) es.length ecap] 69)) from ((Below.refl wa.heap.size wa).drew).alloc (by simp) _)
              have HNd := hide (RBx.later HRa.out HKd.out)
              have HTE := hide (owns_mono (base' := base) (owns_later' HROWa.out HKd.out) (by omega))
              have HKLo := hide HR.out.kr.low
              have hbs2 : base ≤ wa.heap.size + 1 := by have := HRa.out.hi; omega
              clear hiJ hJ0 hJ1 hJ2
              go_upto_region 11 with fail
              go_region_law (first
                | (refine step_append_lies _ (by rfl) _ _ _ (by rfl) base 69 iJ _ 3 48 Tryz.underlying24 HIJ.out HJ0'.out HJ1'.out HJ2'.out rfl (by omega) (.slice ja js.length jcap) js.length (jtCells js) (by rfl) HNd.out.kr.own ⟨_, 0, none⟩ 1 1 [.int .i64 kd, .string (sb name), .slice (some ⟨eb, 0, none⟩) es.length ecap] (by rfl) (by rfl) (World.news_of_block (heap_alloc_new _ _)) (by simp [Value.oneCell']) (by omega) hml (by omega) (by simp; omega) _ rfl ?_; intro g2 cp2 wb hown2 hgrow2 _ _; have HO7 := hide hown2; have HG7 := hide hgrow2; have hx7 := HNd.out.keepRow HNd.out.kr.own hgrow2; obtain ⟨x7, y7, f7, _, _, _, _⟩ := hx7; have f72 := f7 2))
              all_goals
                have HNN := hide (HNd.out.addJ (H := w.heap.size) (eb := eb) (t := ⟨⟨kd, sb name, E⟩, some ⟨eb, 0, none⟩, ecap⟩) HG7.out (by dsimp only; rw [HEL.out]; exact HO7.out) rfl HTE.out HKLo.out (by omega))
                have HOO := hide (((HOa.out.trans (On.of_below HKd.out)).trans (on_rowJ HG7.out)).trans (On.set wb (S := Chg br bp be bn pv (.slice ja js.length jcap)) (b := br) (o := 2) (.inl rfl) (.slice (some ⟨g2, 0, none⟩) (js.length + 1) cp2)))
                go_wp2_with fail
                (try simp only [Exit.inBlock, Exit.then])
                refine bodyPost_ret (results_none rfl _ _ _) rfl ?_
                rw [HQa.out]
                have HRK : RBk base (wb.setCell ⟨br, 2, none⟩ (.slice (some ⟨g2, 0, none⟩) (js.length + 1) cp2)) br line pv (.slice (some ⟨g2, 0, none⟩) (js.length + 1) cp2) N.pcs (js ++ [⟨⟨kd, sb name, E⟩, some ⟨eb, 0, none⟩, ecap⟩]) bp be bn := by
                  unfold RBk
                  have h1 : (js ++ [(⟨⟨kd, sb name, E⟩, some ⟨eb, 0, none⟩, ecap⟩ : Jr)]).map (fun x => x.jt) = js.map (fun x => x.jt) ++ [⟨kd, sb name, E⟩] := by simp
                  have h2 : allEnds (js.map (fun x => x.jt) ++ [⟨kd, sb name, E⟩]) = allEnds (js.map (fun x => x.jt)) ++ E := by unfold allEnds; rw [List.flatMap_append]; simp
                  rw [h1, h2, List.length_append, HEL.out, ← HNMa.out.1, ← HNMa.out.2]
                  exact HNN.out
                exact ⟨.inl ⟨rfl, ⟨_, rfl⟩, _, _, _, HRK, by rw [List.map_append, HJJ.out]; rfl⟩, HOO.out⟩
          · have HX := hide (show jointR N kd ws = (5, N) by
              rw [HQ.out]
              refine jointE_five HKL.out (endC_ne HALL.out) HLATE.out ?_
              rw [HENDS.out, clash_nil, ← HJJ.out]
              exact hcl)
            go_wp2_with fail
            rw [HX.out]
            exact ⟨rfl, .inr ⟨show (5 : Int) ≠ 0 by decide, rfl⟩, HO8.out⟩
        · have HX := hide (show jointR N kd ws = (3, N) by rw [HQ.out]; exact ends_late HKL.out HALL.out hno)
          go_wp2_with fail
          rw [HX.out]
          exact ⟨rfl, linePost_no (show (3 : Int) ≠ 0 by decide) HB6.out⟩
      · have HX := hide (show jointR N kd ws = (1, N) by rw [HQ.out]; exact ends_bad HKL.out hall)
        go_wp2_with fail
        rw [HX.out]
        exact ⟨rfl, linePost_no (show (1 : Int) ≠ 0 by decide) HB5.out⟩
    · have gkl : ((es.length : Int) == (kd : Int)) = false := by rw [beq_eq_false_iff_ne]; omega
      have HX := hide (show jointR N kd ws = (1, N) by rw [HQ.out]; exact jointE_len hkl)
      clear hkl
      go_wp2_with fail
      refine (K7.out _).mono ?_
      rintro e w4 ⟨rfl, hb4⟩
      have HB4 := hide (chnB HB.out hb4)
      have HC4 := hide (cell_later' hb4 HR3.out.c0)
      clear hb4
      go_wp2_with (first
        | (go_at_call 63; refine (want_noR br 1 line _ HC4.out).mono ?_; rintro e w5 ⟨rfl, hw⟩; subst hw))
      rw [HX.out]
      exact ⟨rfl, linePost_no (show (1 : Int) ≠ 0 by decide) HB4.out⟩
end Go.Proofs.YtcodpnkfpmjleaaGreatDoor

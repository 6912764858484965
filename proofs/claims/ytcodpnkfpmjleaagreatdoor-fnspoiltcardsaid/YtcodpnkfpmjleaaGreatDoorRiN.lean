/- impl: a line, whole. Own work. -/
import Derived.Test.YtcodpnkfpmjleaaGreatDoorRiJ
import Derived.Test.YtcodpnkfpmjleaaGreatDoorMxAY
namespace Go.Proofs.YtcodpnkfpmjleaaGreatDoor
open Go.RowKit Go.Maps Go.Sort Go.Shelf
set_option maxHeartbeats 8000000
set_option maxRecDepth 100000

/-! ### A block of another kind is turned -/
theorem KR.put {w : World} {base D : Nat} {jv : Value} {js : List Jr} {o o2 : Obj} (h : KR w base jv js) (hD : w.heap[D]? = some o) (ho : ∀ cur T fz, o ≠ .cells cur T fz) : KR (w.putObj D o2) base jv js :=
  ⟨h.own.kept (grownBy_putObj_a _ _ _) (ownsRow_ne_a h.own hD (fun cur => ho _ _ _)), fun t ht => by obtain ⟨eb, h1, h2⟩ := h.ends t ht; exact ⟨eb, h1, h2.kept (grownBy_putObj_a _ _ _) (ownsRow_ne_a h2 hD (fun cur => ho _ _ _))⟩, h.apart⟩
theorem cell_not {w : World} {b o : Nat} {v : Value} (hc : w.cell? ⟨b, o, none⟩ = some v) {D : Nat} {x : Obj} (hD : w.heap[D]? = some x) (hx : ∀ cur T fz, x ≠ .cells cur T fz) : b ≠ D := fun e => by
  subst e
  unfold World.cell? at hc
  rw [hD] at hc
  cases x <;> simp at hc
  exact hx _ _ _ rfl
theorem map_not {w : World} {m D : Nat} {x : Obj} (hm : ∃ es clock, w.heap[m]? = some (.map es clock)) (hD : w.heap[D]? = some x) (hx : ∀ es clock, x ≠ .map es clock) : m ≠ D := fun e => by
  subst e
  obtain ⟨es, clock, h⟩ := hm
  rw [hD] at h
  exact hx _ _ (Option.some.inj h)
theorem RBx.put {base br bp np be ne bn nn D : Nat} {line : Int} {pv jv : Value} {ps pp : List Pc} {js : List Jr} {seen : List (Int × Int)} {names : List (List UInt8)} {w : World} {o o2 : Obj} (h : RBx base w br line pv jv ps js bp np pp be ne seen bn nn names) (hD : w.heap[D]? = some o) (ho : ∀ cur T fz, o ≠ .cells cur T fz) (hm : ∀ es clock, o ≠ .map es clock) : RBx base (w.putObj D o2) br line pv jv ps js bp np pp be ne seen bn nn names :=
  have hb : br ≠ D := cell_not h.c0 hD ho
  have eB : (w.putObj D o2).heap[br]? = w.heap[br]? := World.putObj_heap_other hb
  have hx : ∀ k {v : Value}, w.cell? ⟨br, k, none⟩ = some v → (w.putObj D o2).cell? ⟨br, k, none⟩ = some v := fun k _ hv => (World.cell?_of_block (a := ⟨br, k, none⟩) eB).trans hv
  ⟨hx 0 h.c0, hx 1 h.c1, hx 2 h.c2, hx 3 h.c3, hx 4 h.c4, hx 5 h.c5, fun k => (World.frozen?_of_block (a := ⟨br, k, none⟩) eB).trans (h.f k), h.op.kept (grownBy_putObj_a _ _ _) (ownsRow_ne_a h.op hD (fun _ => ho _ _ _)), h.kr.put hD ho,
    h.pi.of_block (World.putObj_heap_other (map_not h.pi.isMap hD hm)), h.ei.of_block (World.putObj_heap_other (map_not h.ei.isMap hD hm)), h.si.of_block (World.putObj_heap_other (map_not h.si.isMap hD hm)), h.lo, h.dif, Nat.le_trans h.hi (grownBy_putObj_a w D o2).size⟩
theorem LinePost.put {base br bp be bn D : Nat} {pv jv : Value} {line c : Int} {w W : World} {N2 : Nt} {e : Ending} {o o2 : Obj} (h : LinePost base br bp be bn pv jv line w c N2 e W) (hD : W.heap[D]? = some o) (ho : ∀ cur T fz, o ≠ .cells cur T fz) (hm : ∀ es clock, o ≠ .map es clock) (hn : w.heap.size ≤ D) : LinePost base br bp be bn pv jv line w c N2 e (W.putObj D o2) := by
  obtain ⟨h1, hon⟩ := h
  refine ⟨?_, ⟨hon.os, hon.tape, hon.output, Nat.le_trans hon.size (grownBy_putObj_a W D o2).size, fun b hb hS => (World.putObj_heap_other (by omega)).trans (hon.block b hb hS)⟩⟩
  rcases h1 with ⟨hc, hv, pv', jv', js', hR, hj⟩ | h1
  · exact .inl ⟨hc, hv, pv', jv', js', RBx.put hR hD ho hm, hj⟩
  · exact .inr h1
theorem LinePost.from {base br bp be bn : Nat} {pv jv : Value} {line c : Int} {w W W' : World} {N2 : Nt} {e : Ending} (hb : Below w.heap.size w W) (h : LinePost base br bp be bn pv jv line W c N2 e W') : LinePost base br bp be bn pv jv line w c N2 e W' :=
  ⟨h.1, (On.of_below hb).trans h.2⟩
theorem chg_not {base br bp np be ne bn nn D : Nat} {line : Int} {pv jv : Value} {ps pp : List Pc} {js : List Jr} {seen : List (Int × Int)} {names : List (List UInt8)} {w : World} {o : Obj} (h : RBx base w br line pv jv ps js bp np pp be ne seen bn nn names) (hD : w.heap[D]? = some o) (ho : ∀ cur T fz, o ≠ .cells cur T fz) (hm : ∀ es clock, o ≠ .map es clock) : ¬ Chg br bp be bn pv jv D := fun hC => by
  rcases hC with e | e | e | e | e | e
  · exact cell_not h.c0 hD ho e.symm
  · exact map_not h.pi.isMap hD hm e.symm
  · exact map_not h.ei.isMap hD hm e.symm
  · exact map_not h.si.isMap hD hm e.symm
  · rcases ownsRow_ne_a h.op hD (fun cur => ho _ _ _) with e' | e'
    · rw [e'] at e; cases e
    · exact e' e
  · rcases ownsRow_ne_a h.kr.own hD (fun cur => ho _ _ _) with e' | e'
    · rw [e'] at e; cases e
    · exact e' e
theorem calls_line {P : Program} {f : FuncId} {args : Array Value} {base br bp be bn : Nat} {pv jv : Value} {line c : Int} {W : World} {N2 : Nt} {R : Ending → World → Prop} (h : Calls P f args W (LinePost base br bp be bn pv jv line W c N2)) (hbad : ∀ w', LinePost base br bp be bn pv jv line W c N2 (.panicked (leaveC c line)) w' → R (.panicked (leaveC c line)) w') (hgood : ∀ v w', Hid (LinePost base br bp be bn pv jv line W c N2 (.returned v) w') → R (.returned v) w') : Calls P f args W R :=
  h.mono fun e w' hL => by
    rcases hL.1 with ⟨_, ⟨v, rfl⟩, _⟩ | ⟨_, rfl⟩
    · exact hgood v w' hL
    · exact hbad w' hL
theorem dfr_c : ∀ (cur : Array Value) (T : TypeId) (fz : Nat × Nat), Obj.deferred (some []) ≠ .cells cur T fz := fun _ _ _ h => by cases h
theorem dfr_m : ∀ (es : Array MapEntry) (clock : Nat), Obj.deferred (some []) ≠ .map es clock := fun _ _ h => by cases h
theorem keepDf {base br bp be bn D : Nat} {line line' c : Int} {pv jv : Value} {ps : List Pc} {js : List Jr} {W w' : World} {N2 : Nt} {e : Ending} (hR : RBk base W br line' pv jv ps js bp be bn) (hK : W.heap[D]? = some (.deferred (some []))) (h : LinePost base br bp be bn pv jv line W c N2 e w') : w'.heap[D]? = some (.deferred (some [])) :=
  (h.2.block D (Array.getElem?_eq_some_iff.1 hK).1 (chg_not hR hK dfr_c dfr_m)).trans hK
theorem wp_weaken {P : Program} {c : Code} {Q Q2 : Exit → Act → World → Prop} {a : Act} {w : World} (h : c.wp P Q a w) (hq : ∀ e a w, Q e a w → Q2 e a w) : c.wp P Q2 a w :=
  fun b k cs => let ⟨e, a', w', q, r⟩ := h b k cs; ⟨e, a', w', hq _ _ _ q, r⟩
/-- What a function with one loop over an iterator leaves, whatever its slots hold. -/
def QM (D : Nat) (R : Ending → World → Prop) : Exit → Act → World → Prop
  | .normal, a, w => a.defers = [{ target := .collected D, args := #[] }] ∧ w.heap[D]? = some (.deferred (some [])) ∧ R (.returned (.tuple #[])) w
  | .panic c, a, w => a.defers = [{ target := .collected D, args := #[] }] ∧ w.heap[D]? = some (.deferred (some [])) ∧ R (.panicked c) w
  | _, _, _ => False
theorem QM.body {D n : Nat} {P : Program} {fn : Func} {R R' : Ending → World → Prop} (hres : fn.results = #[]) (hR : ∀ e w, w.heap[D]? = some (.deferred (some [])) → R e w → R' e (w.putObj D (.deferred none))) : ∀ e a w, QM D R e a w → bodyPostM Fence.wide n P fn R' e a w := fun e a w h => by
  cases e with
  | normal =>
    obtain ⟨h1, h2, h3⟩ := h
    show LeavesInM Fence.wide n P fn a.tmps R' a.defers .returning w
    rw [h1]
    exact ⟨by simp, .inl ⟨_, _, rfl, run_takeDeferred h2, _, results_none hres _ _ _, hR _ _ h2 h3⟩⟩
  | panic c =>
    obtain ⟨h1, h2, h3⟩ := h
    show LeavesInM Fence.wide n P fn a.tmps R' a.defers (.panicking c) w
    rw [h1]
    exact ⟨by simp, .inl ⟨_, _, rfl, run_takeDeferred h2, hR _ _ h2 h3⟩⟩
  | ret => exact h.elim
  | exit _ => exact h.elim
  | goto _ => exact h.elim
  | outgrown => exact h.elim
theorem kind_yes (br : Nat) {l : Bl} {kd : Nat} (line : Int) (w : World) (hc : w.cell? ⟨br, 0, none⟩ = some (.int .i64 line)) (hk : kindW l = kd) (h0 : kd ≠ 0) :
    Calls Tryz.prog 103 #[.pointer (some ⟨br, 0, none⟩), .string (sb l)] w fun e w' => e = .returned (.int .i64 (kd : Int)) ∧ w = w' :=
  (kind_any br l line w hc).mono fun e w' h => by
    rw [hk] at h
    rcases h.1 with h' | h'
    · exact ⟨h'.2, h.2⟩
    · exact absurd h'.1 h0
theorem kind_no (br : Nat) {l : Bl} (line : Int) (w : World) (hc : w.cell? ⟨br, 0, none⟩ = some (.int .i64 line)) (hk : kindW l = 0) :
    Calls Tryz.prog 103 #[.pointer (some ⟨br, 0, none⟩), .string (sb l)] w fun e w' => e = .panicked (leaveC 1 line) ∧ w = w' :=
  (kind_any br l line w hc).mono fun e w' h => by
    rcases h.1 with h' | h'
    · exact absurd hk h'.1
    · exact ⟨h'.2, h.2⟩
theorem readLine_any (br base bp be bn : Nat) (l : Bl) (line : Int) (pv jv : Value) (ps : List Pc) (js : List Jr) (w : World) (hl : l.length ≤ 65536) (hn : ps.length ≤ 100000) (hj : js.length ≤ 100000) (hJ : JNm (js.map (·.jt))) (hne : (allEnds (js.map (·.jt))).length ≤ 500000) (hnn : (namesJ (js.map (·.jt))).length ≤ 100000) (hM : MX w) (hR : RBk base w br line pv jv ps js bp be bn) :
    Calls Tryz.prog 65 #[.pointer (some ⟨br, 0, none⟩), .string (sb l)] w (LinePost base br bp be bn pv jv line w (lineL ⟨ps, js.map (·.jt)⟩ (wordsL l)).1 (lineL ⟨ps, js.map (·.jt)⟩ (wordsL l)).2) := by
  have HJN := hide hJ
  have HM := hide hM
  have HR := hide hR
  clear hJ hM hR
  refine (callsIn_wide (n := 9)).1 ?_
  refine callsIn_of_wp_marks Tryz.func65 rfl trivial ?_ rfl
  simp only [Tryz.ntmps65, List.size_toArray, List.length_cons, List.length_nil, Nat.reduceAdd, Nat.reduceSub, Array.replicate_succ, Array.replicate_zero, List.push_toArray, List.append_toArray, List.nil_append, List.cons_append]
  refine wpIn_wide.2 ?_
  go_wp2_with (first
    | (go_at_call 100; refine (words_any l _).mono ?_; rintro e w2 ⟨rfl, hw2⟩; subst hw2))
  refine (wpIn_wide (n := 9)).1 ?_
  refine wpIn_rangeFunc ?_
  intro fn hfn
  obtain ⟨W0, hW0⟩ : ∃ W0, (w.alloc (.cells #[.slice none 0 0] 65)).alloc (.cells #[.string (sb l)] 9) = W0 := ⟨_, rfl⟩
  have hs0 : W0.heap.size = w.heap.size + 2 := by rw [← hW0]; simp
  have hv0 : W0.heap[w.heap.size]? = some (.cells #[.slice none 0 0] 65 (0, 0)) := by rw [← hW0]; exact (Below.heap_alloc _ _ _ (by simp)).trans (World.alloc_heap_new w _)
  have hm0 : W0.cell? ⟨w.heap.size + 1, 0, none⟩ = some (.string (sb l)) := by rw [← hW0]; have := new_cell (w.alloc (.cells #[.slice none 0 0] 65)) #[.string (sb l)] 9 0 _ rfl; rwa [World.size_alloc] at this
  have hb0 : Below w.heap.size w W0 := by rw [← hW0]; exact ((Below.refl _ w).alloc (Nat.le_refl _) _).alloc (by simp) _
  rw [hW0]
  obtain ⟨W1, hW1⟩ : ∃ W1, (W0.alloc (.deferred (some []))).alloc (.loop (rlRec fn br l w.heap.size (w.heap.size + 1) W0.heap.size .ready none)) = W1 := ⟨_, rfl⟩
  have hb01 : Below W0.heap.size W0 W1 := by rw [← hW1]; exact ((Below.refl _ W0).alloc (Nat.le_refl _) _).alloc (by simp) _
  have hb1 : Below w.heap.size w W1 := chnB hb0 hb01
  have hM1 : RlAt w fn br l w.heap.size (w.heap.size + 1) (W0.heap.size + 1) W0.heap.size [] W1 :=
    ⟨⟨_, (hb01.block _ (by omega)).trans hv0, ⟨rfl, .inl ⟨rfl, rfl⟩⟩⟩,
     by rw [← hW1]; have := World.alloc_heap_new (W0.alloc (.deferred (some []))) (.loop (rlRec fn br l w.heap.size (w.heap.size + 1) W0.heap.size .ready none)); rwa [World.size_alloc] at this,
     by rw [← hW1]; exact (Below.heap_alloc _ _ _ (by simp)).trans (World.alloc_heap_new W0 _), hb1⟩
  refine ⟨W0.heap.size + 1, [{ target := .collected W0.heap.size, args := #[] }], W1, { target := .fn (.func 125) #[.pointer (some ⟨w.heap.size + 1, 0, none⟩)], args := #[.func (.yield (W0.heap.size + 1)) #[] #[]] }, W1, 125,
    #[.func (.yield (W0.heap.size + 1)) #[] #[], .pointer (some ⟨w.heap.size + 1, 0, none⟩)], W1, ?_, ?_, ?_, ?_, fun _ => by omega, ?_⟩
  · rw [← hW1]; exact run_enterLoop_outer _ _ _ _ _
  · simp [resolve, go_sem]
  · intro f' hf'; trivial
  · simp [invoke, go_sem]
  · refine (wordsIt_in 8 (by omega) (W0.heap.size + 1) (w.heap.size + 1) l (by omega) (RlAt w fn br l w.heap.size (w.heap.size + 1) (W0.heap.size + 1) W0.heap.size) (fun pre W W' h hb => h.later hb)
      (fun pre x post W he hJ => rlYield _ w fn hfn br l w.heap.size (w.heap.size + 1) (W0.heap.size + 1) W0.heap.size (by omega) (by omega) (by omega) (Nat.le_refl _) (by omega) pre x W hJ (by have h1 := wordsG_bd l []; have h2 := congrArg List.length he; rw [List.length_append] at h2; unfold wordsL at h2; simp at h2; omega)) W1 (cell_later' hb01 hm0) (HM.out.later hb1) hM1).mono ?_
    rintro e W2 ⟨⟨v0, rfl⟩, h2⟩
    obtain ⟨v, hv, hrow⟩ := h2.box
    have hend := run_endLoop (P := Tryz.prog) h2.L (by simp [rlRec])
    obtain ⟨W3, hW3⟩ : ∃ W3, W2.putObj (W0.heap.size + 1) (.loop { rlRec fn br l w.heap.size (w.heap.size + 1) W0.heap.size .ready none with state := .exhausted }) = W3 := ⟨_, rfl⟩
    rw [hW3] at hend
    have hg3 : W2.grownBy W3 (some (W0.heap.size + 1)) := by rw [← hW3]; exact grownBy_putObj_a _ _ _
    have hv3 : W3.heap[w.heap.size]? = some (.cells #[v] 65 (0, 0)) := by rw [← hW3]; exact (World.putObj_heap_other (by omega)).trans hv
    have hK3 : W3.heap[W0.heap.size]? = some (.deferred (some [])) := by rw [← hW3]; exact (World.putObj_heap_other (by omega)).trans h2.K
    have hrow3 := hrow.kept hg3 (ownsRow_ne_a hrow h2.L (fun cur e => by cases e))
    have HB3 : Hid (Below w.heap.size w W3) := h2.below.grown hg3 h2.below.size (fun k e => by cases e; omega)
    obtain ⟨z, cz, rfl, hS3, hcz⟩ := strs_cap hrow3
    obtain ⟨hc3, hf3⟩ := cell_of_box_a hv3
    have HR3 := hide (RBx.later HR.out HB3.out)
    have HM3 := hide (HM.out.later HB3.out)
    have HK3 := hide hK3
    have HS3 := hide hS3
    have HWL := hide (show ∀ x ∈ wordsL l, x.length ≤ 1048576 from fun x hx => by have := (wordsG_bd l []).2 x hx; simp at this; omega)
    have hwl : (wordsL l).length ≤ 65537 := by have := (wordsG_bd l []).1; unfold wordsL; omega
    have hD0 : w.heap.size ≤ W0.heap.size := by omega
    generalize hws : wordsL l = ws at *
    have HWS := hide hws
    clear hws
    generalize W0.heap.size = D at *
    have hlc := cell_lt hc3
    refine ⟨none, W3, hend, ?_⟩
    clear hend hW3 hf3 hv3 hrow3 hrow hg3 hv h2 hS3 hK3 hM1 hb1 hb01 hW1 hb0 hm0 hv0 hs0 hW0 HM HR
    cases ws with
    | nil =>
      have HLP : Hid (LinePost base br bp be bn pv jv line w 0 ⟨ps, js.map (·.jt)⟩ (.returned (.tuple #[])) W3) := ⟨.inl ⟨rfl, ⟨_, rfl⟩, pv, jv, js, HR3.out, rfl⟩, On.of_below HB3.out⟩
      go_wp2_with fail
      rw [HWS.out]
      exact ⟨by simp, .inl ⟨_, _, rfl, run_takeDeferred HK3.out, _, results_none rfl _ _ _, HLP.out.put HK3.out dfr_c dfr_m hD0⟩⟩
    | cons x0 rest =>
      obtain ⟨b, o, rfl, d0⟩ := HS3.out 0 (by simp)
      simp only [List.getElem_cons_zero, Nat.add_zero] at d0
      have hld := cell_lt d0
      have gz : (((rest.length : Int) + 1) == 0) = false := by rw [beq_eq_false_iff_ne]; omega
      by_cases hp : x0 = pieceB
      · have gp : ((sb x0).toList == [112, 105, 101, 99, 101]) = true := lit_eq hp
        have HLN := hide (show lineL ⟨ps, js.map (·.jt)⟩ (wordsL l) = pieceL ⟨ps, js.map (·.jt)⟩ (x0 :: rest) by rw [HWS.out]; unfold lineL; dsimp only; rw [if_pos hp])
        clear hp
        go_wp2_with fail
        refine calls_line (readPiece_any br base bp be bn (some ⟨b, o, none⟩) cz (x0 :: rest) line pv jv ps js W3 hn HWL.out (by omega) HR3.out HS3.out) ?_ ?_
        · intro w' h'
          have hh : LinePost base br bp be bn pv jv line w (lineL ⟨ps, js.map (·.jt)⟩ (wordsL l)).1 (lineL ⟨ps, js.map (·.jt)⟩ (wordsL l)).2 (.panicked (leaveC (pieceL ⟨ps, js.map (·.jt)⟩ (x0 :: rest)).1 line)) (w'.putObj D (.deferred none)) := by
            rw [HLN.out]
            exact (h'.from HB3.out).put (keepDf HR3.out HK3.out h') dfr_c dfr_m hD0
          exact ⟨by simp, .inl ⟨_, _, rfl, run_takeDeferred (keepDf HR3.out HK3.out h'), hh⟩⟩
        · intro v' w' HLP
          have HKD := hide (keepDf HR3.out HK3.out HLP.out)
          go_wp2_with fail
          rw [HLN.out]
          obtain ⟨h1, h2⟩ := HLP.out.from HB3.out
          exact ⟨by simp, .inl ⟨_, _, rfl, run_takeDeferred HKD.out, _, results_none rfl _ _ _, LinePost.put ⟨h1.imp (fun ⟨hc, _, hx⟩ => ⟨hc, ⟨_, rfl⟩, hx⟩) (fun ⟨_, hx⟩ => by cases hx), h2⟩ HKD.out dfr_c dfr_m hD0⟩⟩
      · have gp : ((sb x0).toList == [112, 105, 101, 99, 101]) = false := lit_ne hp
        have HLN := hide (show lineL ⟨ps, js.map (·.jt)⟩ (wordsL l) = jointL ⟨ps, js.map (·.jt)⟩ (x0 :: rest) by rw [HWS.out]; unfold lineL; dsimp only; rw [if_neg hp])
        clear hp
        have HBd := hide (chnB HB3.out ((Below.refl W3.heap.size W3).drew))
        have HRd := hide (RBx.later HR3.out ((Below.refl W3.heap.size W3).drew))
        have HKd : Hid (W3.drew.heap[D]? = some (.deferred (some []))) := HK3.out
        by_cases hk0 : kindW x0 = 0
        · have HX := hide (jointL_none ⟨ps, js.map (·.jt)⟩ x0 rest hk0)
          have HK0 := hide hk0
          clear hk0
          go_upto_region 7 with fail
          refine wp_weaken (Q := QM D (LinePost base br bp be bn pv jv line w (lineL ⟨ps, js.map (·.jt)⟩ (wordsL l)).1 (lineL ⟨ps, js.map (·.jt)⟩ (wordsL l)).2)) ?_ (QM.body rfl (fun e w h1 h2 => h2.put h1 dfr_c dfr_m hD0))
          rw [HLN.out, HX.out]
          by_cases hc1 : cz = 1
          · subst hc1
            obtain rfl : rest = [] := by
              cases rest with
              | nil => rfl
              | cons x l => simp at hcz
            go_region_law (first | (go_simp; go_at_call 103; refine (kind_no br line _ HRd.out.c0 HK0.out).mono ?_; rintro e w2 ⟨rfl, hw⟩; subst hw; refine dieR Tryz.prog W3 ?_ ?_; (exact ⟨rfl, HKd.out, linePost_no (show (1 : Int) ≠ 0 by decide) HBd.out⟩)))
            all_goals trivial
          · have hcz2 : rest.length + 1 ≤ cz := by simpa using hcz
            have h1r : (1 : Int) ≤ (rest.length : Int) + 1 := by omega
            have hr1 : rest.length ≤ 1048576 := by simp at hwl; omega
            have hcz3 : rest.length ≤ cz - 1 := by omega
            go_region_law (first | (go_simp; go_at_call 103; refine (kind_no br line _ HRd.out.c0 HK0.out).mono ?_; rintro e w2 ⟨rfl, hw⟩; subst hw; refine dieR Tryz.prog W3 ?_ ?_; (exact ⟨rfl, HKd.out, linePost_no (show (1 : Int) ≠ 0 by decide) HBd.out⟩)))
            all_goals trivial
        · have HX := hide (jointL_R ⟨ps, js.map (·.jt)⟩ x0 rest hk0)
          have HK0 := hide hk0
          have hkl := kindW_le x0
          have hk14 : 1 ≤ kindW x0 ∧ kindW x0 ≤ 4 := by omega
          have HMd := hide (HM3.out.later ((Below.refl W3.heap.size W3).drew))
          have HWR := hide (show ∀ x ∈ rest, x.length ≤ 1048576 from fun x hx => HWL.out x (List.mem_cons_of_mem _ hx))
          have HSd := hide (HS3.out.later ((Below.refl W3.heap.size W3).drew))
          clear hk0 hkl
          generalize hkd : kindW x0 = kd at *
          have HKD := hide hkd
          clear hkd
          go_upto_region 7 with fail
          refine wp_weaken (Q := QM D (LinePost base br bp be bn pv jv line w (lineL ⟨ps, js.map (·.jt)⟩ (wordsL l)).1 (lineL ⟨ps, js.map (·.jt)⟩ (wordsL l)).2)) ?_ (QM.body rfl (fun e w h1 h2 => h2.put h1 dfr_c dfr_m hD0))
          rw [HLN.out, HX.out]
          by_cases hc1 : cz = 1
          · subst hc1
            obtain rfl : rest = [] := by
              cases rest with
              | nil => rfl
              | cons x l => simp at hcz
            go_region_law (first
              | (go_simp; go_at_call 103; refine (kind_yes br line _ HRd.out.c0 HKD.out HK0.out).mono ?_; rintro e w2 ⟨rfl, hw⟩; subst hw)
              | (go_simp; go_at_call 102; refine calls_line (readJoint_any br base bp be bn kd _ _ [] line pv jv ps js W3.drew hk14 hn hj HJN.out hne hnn HWR.out (by simp) (by simp) HMd.out HRd.out (strs_nil _ _)) ?_ ?_; (intro w' h'; exact ⟨rfl, keepDf HRd.out HKd.out h', h'.from HBd.out⟩); (intro v' w' HLP)))
            all_goals
              go_wp2_with fail
              obtain ⟨h1, h2⟩ := HLP.out.from HBd.out
              exact ⟨rfl, keepDf HRd.out HKd.out HLP.out, ⟨h1.imp (fun ⟨hc, _, hx⟩ => ⟨hc, ⟨_, rfl⟩, hx⟩) (fun ⟨_, hx⟩ => by cases hx), h2⟩⟩
          · have HST := hide (strs_tail HSd.out)
            have hcz2 : rest.length + 1 ≤ cz := by simpa using hcz
            have h1r : (1 : Int) ≤ (rest.length : Int) + 1 := by omega
            have hr1 : rest.length ≤ 1048576 := by simp at hwl; omega
            have hcz3 : rest.length ≤ cz - 1 := by omega
            go_region_law (first
              | (go_simp; go_at_call 103; refine (kind_yes br line _ HRd.out.c0 HKD.out HK0.out).mono ?_; rintro e w2 ⟨rfl, hw⟩; subst hw)
              | (go_simp; go_at_call 102; refine calls_line (readJoint_any br base bp be bn kd (some ⟨b, o + 1, none⟩) (cz - 1) rest line pv jv ps js W3.drew hk14 hn hj HJN.out hne hnn HWR.out hr1 hcz3 HMd.out HRd.out HST.out) ?_ ?_; (intro w' h'; exact ⟨rfl, keepDf HRd.out HKd.out h', h'.from HBd.out⟩); (intro v' w' HLP)))
            all_goals
              go_wp2_with fail
              obtain ⟨h1, h2⟩ := HLP.out.from HBd.out
              exact ⟨rfl, keepDf HRd.out HKd.out HLP.out, ⟨h1.imp (fun ⟨hc, _, hx⟩ => ⟨hc, ⟨_, rfl⟩, hx⟩) (fun ⟨_, hx⟩ => by cases hx), h2⟩⟩
end Go.Proofs.YtcodpnkfpmjleaaGreatDoor

import Derived.Test.YtjagfeihmnagkaaGreatDoorMxAR
import Derived.Test.YtjagfeihmnagkaaGreatDoorSpC
import Derived.Test.YtjagfeihmnagkaaGreatDoorMxAO
import Derived.Test.YtjagfeihmnagkaaGreatDoorMxAN
import Derived.RangeFuncLeaves
import Derived.ControlIn
namespace Go.Proofs.YtjagfeihmnagkaaGreatDoor
open Go.RowKit
set_option maxHeartbeats 1000000

theorem sizeOk_bad (N : Nt) : (inR (N.pcs.length : Int) 1 100 && decide ((N.jts.length : Int) ≤ 120)) = !sizeBad N := by
  rw [Bool.eq_iff_iff]
  unfold sizeBad inR
  simp only [Bool.and_eq_true, decide_eq_true_eq, Bool.not_eq_true', Bool.or_eq_false_iff, decide_eq_false_iff_not]
  omega

theorem implNetOk_any (a a' : Option Addr) (N : Nt) (cap cap' : Nat) (w : World) (hn : N.pcs.length ≤ 1048576) (hs : ∀ p ∈ N.pcs, p.name.size ≤ 1048576) (hl : N.jts.length ≤ 1048576) (hm : ∀ j ∈ N.jts, j.name.size ≤ 1048576 ∧ j.ends.length ≤ 1048576) (hp : PcsAt w a N.pcs) (hj : JtsAt w a' N.jts) :
    Calls Tryz.prog 47 #[.agg #[.slice a N.pcs.length cap, .slice a' N.jts.length cap']] w fun e w' =>
    e = .returned (.agg #[.int .i64 (netOk N).1, .int .i64 (netOk N).2]) ∧ Below w.heap.size w w' := by
  have HP := hide hp
  have HJ := hide hj
  have HM := hide hm
  have HS := hide hs
  clear hp hj hm hs
  go_enter Tryz.func47, Tryz.ntmps47
  go_wp2_with fail
  have HNB0 : Hid (NB w ((w.alloc (.cells #[.slice a N.pcs.length cap, .slice a' N.jts.length cap'] 25)).alloc (.cells #[.int .i64 0, .int .i64 0] 37)) (.slice a N.pcs.length cap) (.slice a' N.jts.length cap')) :=
    ⟨by simp [go_sem], by simp [go_sem], by simp [go_sem], by simp [go_sem], by simp [go_sem], by simp [go_sem], ((Below.refl _ _).alloc (Nat.le_refl _) _).alloc (by simp) _⟩
  refine (sizeOk_any a a' _ _ cap cap' _).mono ?_
  rintro e w1 ⟨rfl, hb1⟩
  have HNB := hide (HNB0.out.later hb1)
  clear hb1 HNB0
  obtain ⟨n0, n1, r0, r1, f0, f1, hb⟩ := HNB.out
  rw [sizeOk_bad]
  cases hsb : sizeBad N
  case true =>
    have HSB := hide hsb
    clear hsb
    go_wp2_with fail
    exact bodyPost_ret (v := .agg #[.int .i64 1, .int .i64 0]) (by simp [results, Tryz.results47, go_sem, r0, r1]) rfl ⟨by rw [netOk_1 HSB.out], by repeat (first | exact hb | refine Below.setCell ?_ (by simp) _)⟩
  have HSB := hide hsb
  clear hsb
  go_wp2_with fail
  refine (wrongPiece_any a N.pcs cap _ hn HS.out (HP.out.later hb)).mono ?_
  rintro e w2 ⟨rfl, hb1⟩
  have HNB2 := hide (HNB.out.later hb1)
  clear hb1 HNB n0 n1 r0 r1 f0 f1 hb
  obtain ⟨n0, n1, r0, r1, f0, f1, hb⟩ := HNB2.out
  rcases first_cases (pcBad N.pcs) N.pcs.length with ⟨_, h2⟩ | ⟨i, hi, _, hbad, hlt⟩
  case inr =>
    rw [firstI_some hi hbad hlt]
    have HX := hide (netOk_2 HSB.out hi hbad hlt)
    clear hbad hlt
    go_wp2_with fail
    exact bodyPost_ret (v := .agg #[.int .i64 2, .int .i64 i]) (by simp [results, Tryz.results47, go_sem, r0, r1]) rfl ⟨by rw [HX.out], by repeat (first | exact hb | refine Below.setCell ?_ (by simp) _)⟩
  rw [firstI_none h2]
  have H2 := hide h2
  clear h2
  go_wp2_with fail
  refine (wrongJoint_any a a' _ cap cap' N.jts _ hn hl HM.out (HJ.out.later hb)).mono ?_
  rintro e w3 ⟨rfl, hb1⟩
  have HNB3 := hide (HNB2.out.later hb1)
  clear hb1 HNB2 n0 n1 r0 r1 f0 f1 hb
  obtain ⟨n0, n1, r0, r1, f0, f1, hb⟩ := HNB3.out
  rcases first_cases (jtBad3 N.pcs.length N.jts) N.jts.length with ⟨_, h3⟩ | ⟨i, hi, _, hbad, hlt⟩
  case inr =>
    rw [firstI_some hi hbad hlt]
    have HX := hide (netOk_3 HSB.out H2.out hi hbad hlt)
    clear hbad hlt
    go_wp2_with fail
    exact bodyPost_ret (v := .agg #[.int .i64 3, .int .i64 i]) (by simp [results, Tryz.results47, go_sem, r0, r1]) rfl ⟨by rw [HX.out], by repeat (first | exact hb | refine Below.setCell ?_ (by simp) _)⟩
  rw [firstI_none h3]
  have H3 := hide h3
  clear h3
  go_wp2_with fail
  refine (wrongJointName_any a' cap' N.pcs.length N.jts _ hl HM.out H3.out (HJ.out.later hb)).mono ?_
  rintro e w4 ⟨rfl, hb1⟩
  have HNB4 := hide (HNB3.out.later hb1)
  clear hb1 HNB3 n0 n1 r0 r1 f0 f1 hb
  obtain ⟨n0, n1, r0, r1, f0, f1, hb⟩ := HNB4.out
  rcases first_cases (jtBad4 N.jts) N.jts.length with ⟨_, h4⟩ | ⟨i, hi, _, hbad, hlt⟩
  case inr =>
    rw [firstI_some hi hbad hlt]
    have HX := hide (netOk_4 HSB.out H2.out H3.out hi hbad hlt)
    clear hbad hlt
    go_wp2_with fail
    exact bodyPost_ret (v := .agg #[.int .i64 4, .int .i64 i]) (by simp [results, Tryz.results47, go_sem, r0, r1]) rfl ⟨by rw [HX.out], by repeat (first | exact hb | refine Below.setCell ?_ (by simp) _)⟩
  rw [firstI_none h4]
  have H4 := hide h4
  clear h4
  go_wp2_with fail
  refine (wrongEnds_any a a' _ cap cap' N.jts _ hn hl HM.out H3.out (HJ.out.later hb)).mono ?_
  rintro e w5 ⟨rfl, hb1⟩
  have HNB5 := hide (HNB4.out.later hb1)
  clear hb1 HNB4 n0 n1 r0 r1 f0 f1 hb
  obtain ⟨n0, n1, r0, r1, f0, f1, hb⟩ := HNB5.out
  rcases first_cases (pcBad5 N.jts) N.pcs.length with ⟨_, h5⟩ | ⟨i, hi, _, hbad, hlt⟩
  case inr =>
    rw [firstI_some hi hbad hlt]
    have HX := hide (netOk_5 HSB.out H2.out H3.out H4.out hi hbad hlt)
    clear hbad hlt
    go_wp2_with fail
    exact bodyPost_ret (v := .agg #[.int .i64 5, .int .i64 i]) (by simp [results, Tryz.results47, go_sem, r0, r1]) rfl ⟨by rw [HX.out], by repeat (first | exact hb | refine Below.setCell ?_ (by simp) _)⟩
  rw [firstI_none h5]
  have H5 := hide h5
  clear h5
  go_wp2_with fail
  exact bodyPost_ret (v := .agg #[.int .i64 0, .int .i64 0]) (by simp [results, Tryz.results47, go_sem, r0, r1]) rfl ⟨by rw [netOk_0 HSB.out H2.out H3.out H4.out H5.out], by repeat (first | exact hb | refine Below.setCell ?_ (by simp) _)⟩
end Go.Proofs.YtjagfeihmnagkaaGreatDoor

/- impl: what is wrong with a whole net. Own work. -/
namespace Go.Proofs.YtjagfeihmnagkaaGreatDoor
open Go.RowKit Go.Maps Go.Sort Go.Shelf
set_option maxHeartbeats 8000000
set_option maxRecDepth 100000

/-- What wholeError tells. -/
def wholeV (N : Nt) : Value := if (netOk N).1 = 0 then .nilIface else if (netOk N).1 = 5 then errV 7 (netOk N).2 else errV 6 0
theorem wholeError_any (a a' : Option Addr) (N : Nt) (cap cap' : Nat) (w : World) (hn : N.pcs.length ≤ 1048576) (hs : ∀ p ∈ N.pcs, p.name.size ≤ 1048576) (hl : N.jts.length ≤ 1048576) (hm : ∀ j ∈ N.jts, j.name.size ≤ 1048576 ∧ j.ends.length ≤ 1048576) (hp : PcsAt w a N.pcs) (hj : JtsAt w a' N.jts) :
    Calls Tryz.prog 30 #[.agg #[.slice a N.pcs.length cap, .slice a' N.jts.length cap']] w fun e w' => e = .returned (wholeV N) ∧ Below w.heap.size w w' := by
  have hb1 := bS0 w (.cells #[.slice a N.pcs.length cap, .slice a' N.jts.length cap'] 25)
  have HC := hide (implNetOk_any a a' N cap cap' (w.alloc (.cells #[.slice a N.pcs.length cap, .slice a' N.jts.length cap'] 25)) hn hs hl hm (hp.later hb1) (hj.later hb1))
  have HB1 := hide hb1
  obtain ⟨c, x, hcx⟩ : ∃ c x, netOk N = (c, x) := ⟨_, _, rfl⟩
  rw [hcx] at HC
  have HV := hide (show wholeV N = if c = 0 then .nilIface else if c = 5 then errV 7 x else errV 6 0 by unfold wholeV; rw [hcx])
  clear hn hs hl hm hp hj hb1 hcx
  have hfin : ∀ (w2 : World), Below (w.alloc (.cells #[.slice a N.pcs.length cap, .slice a' N.jts.length cap'] 25)).heap.size (w.alloc (.cells #[.slice a N.pcs.length cap, .slice a' N.jts.length cap'] 25)) w2 → Below w.heap.size w (w2.alloc (.cells #[.int .i64 c, .int .i64 x] 37)) := fun w2 h => (chnB HB1.out h).alloc (chnB HB1.out h).size _
  by_cases h0 : c = 0
  · have HR := hide (show wholeV N = .nilIface by rw [HV.out, if_pos h0])
    subst h0
    go_enter Tryz.func30, Tryz.ntmps30
    go_wp2_with (go_at_call 47; refine HC.out.mono ?_; rintro e w2 ⟨rfl, hb2⟩)
    go_ret
    exact ⟨by rw [HR.out]; rfl, hfin w2 hb2⟩
  · have g0 : (c == 0) = false := by rw [beq_eq_false_iff_ne]; exact h0
    by_cases h5 : c = 5
    · have HR := hide (show wholeV N = errV 7 x by rw [HV.out, if_neg h0, if_pos h5])
      subst h5
      clear g0 h0
      go_enter Tryz.func30, Tryz.ntmps30
      go_wp2_with (go_at_call 47; refine HC.out.mono ?_; rintro e w2 ⟨rfl, hb2⟩)
      go_ret
      exact ⟨by rw [HR.out]; rfl, hfin w2 hb2⟩
    · have g5 : (c == 5) = false := by rw [beq_eq_false_iff_ne]; exact h5
      have HR := hide (show wholeV N = errV 6 0 by rw [HV.out, if_neg h0, if_neg h5])
      clear h0 h5
      go_enter Tryz.func30, Tryz.ntmps30
      go_wp2_with (go_at_call 47; refine HC.out.mono ?_; rintro e w2 ⟨rfl, hb2⟩)
      go_ret
      exact ⟨by rw [HR.out]; rfl, hfin w2 hb2⟩
end Go.Proofs.YtjagfeihmnagkaaGreatDoor

/- Code of a function that is known, with a range over a function that may be left by a panic. Own work, along the lines of the library's laws. -/
namespace Go.Proofs.YtjagfeihmnagkaaGreatDoor
open Go
variable {P : Program} {f : FuncId}

def wpF (f : FuncId) (P : Program) (c : Code) (Q : Exit → Act → World → Prop) (a : Act) (w : World) : Prop :=
  ∀ (b : Frame) (k : List Item) (cs : List Frame), b.fn = f → b.roundOf = none → ∃ e a' w', Q e a' w' ∧ ArrivesIn (Machine.fenced P Fence.wide) P (lone (b.atR a (.code c :: k)) cs w) b k cs e a' w'
section
variable {Q : Exit → Act → World → Prop} {a : Act} {w : World}
theorem wpF_of_wp {c : Code} (h : c.wp P Q a w) : wpF f P c Q a w := fun b k cs _ hro => (wpIn_wide (n := 0)).2 h b k cs hro trivial (room_wide _)
theorem wpF_seq {x y : Code} (h : wpF f P x (Exit.then (wpF f P y Q) Q) a w) : wpF f P (Code.seq x y) Q a w := by
  intro b k cs hb hro
  have h0 : (lone (b.atR a (.code (.seq x y) :: k)) cs w).fenced P Fence.wide := fenced_wide _ _
  obtain ⟨e, a₁, w₁, hq, harr⟩ := h b (.code y :: k) cs hb hro
  cases e with
  | normal =>
    obtain ⟨e₂, a₂, w₂, hq₂, harr₂⟩ := hq b k cs hb hro
    exact ⟨e₂, a₂, w₂, hq₂, .of_steps (.head h0 stepR_seq harr) harr₂⟩
  | exit id => exact ⟨_, a₁, w₁, hq, .of_steps (.one h0 stepR_seq) (.pass (x := .code y) rfl (fun _ _ => .inl (by simp)) harr)⟩
  | goto l => exact ⟨_, a₁, w₁, hq, .of_steps (.one h0 stepR_seq) (.pass (x := .code y) rfl (fun _ _ => .inl (by simp)) harr)⟩
  | ret => exact ⟨_, a₁, w₁, hq, .of_steps (.one h0 stepR_seq) (.pass (x := .code y) rfl (fun _ _ => .inl (by simp)) harr)⟩
  | panic ch => exact ⟨_, a₁, w₁, hq, .of_steps (.one h0 stepR_seq) (.pass (x := .code y) rfl (fun _ _ => .inl (by simp)) harr)⟩
  | outgrown => exact ⟨_, a₁, w₁, hq, .of_steps (.one h0 stepR_seq) (.pass (x := .code y) rfl (fun _ _ => .inl (by simp)) harr)⟩
/-- A block that is left at its end, or by a panic. -/
def calmQ (Q : Exit → Act → World → Prop) : Exit → Act → World → Prop
  | .normal, a, w => Q .normal a w
  | .panic c, a, w => Q (.panic c) a w
  | _, _, _ => False
theorem wpF_block {id : Nat} {c : Code} (h : wpF f P c (calmQ Q) a w) : wpF f P (Code.block id c) Q a w := by
  intro b k cs hb hro
  have h0 : (lone (b.atR a (.code (.block id c) :: k)) cs w).fenced P Fence.wide := fenced_wide _ _
  obtain ⟨e, a₁, w₁, hq, harr⟩ := h b (.inBlock id :: k) cs hb hro
  cases e with
  | normal => exact ⟨.normal, a₁, w₁, hq, .head h0 stepR_block (StepsIn.trans harr (.one (fenced_wide _ _) stepR_inBlock))⟩
  | exit id' => exact hq.elim
  | goto l => exact hq.elim
  | ret => exact hq.elim
  | panic ch => exact ⟨_, a₁, w₁, hq, .of_steps (.one h0 stepR_block) harr⟩
  | outgrown => exact hq.elim
/-- What is asked when the function that was ranged over has ended: no round leaves by a jump. -/
def rangeP (P : Program) (l : Nat) (Q : Exit → Act → World → Prop) (a' : Act) : Ending → World → Prop
  | .returned _, w₃ => ∃ w₄, (Instr.endLoop l).run P w₃ = .ok none w₄ ∧ Q .normal a' w₄
  | .panicked chain, w₃ => Q (.panic chain) a' w₃
  | .outgrown, _ => False
theorem wpF_range {n : Nat} {g : Operand} {ps : Array Tmp} {assign body : Code}
    (h : ∃ (l : Nat) (mark : List Deferred) (w₁ : World) (d : Deferred) (w₁' : World) (f' : FuncId) (args : Array Value) (w₂ : World),
      (Instr.enterLoop f a.tmps ps assign body none).run P w = .ok (l, mark) w₁ ∧
      (resolve a.eval (rangeCall g l) 0).run P w₁ = .ok d w₁' ∧
      (invoke d.target d.args).run P w₁' = .ok (.enter f' args) w₂ ∧
      CallsIn Fence.wide n P f' args w₂ (rangeP P l Q { a with defers := mark ++ a.defers })) :
    wpF f P (Code.rangeFunc g ps assign body) Q a w := by
  intro b k cs hb hro
  obtain ⟨l, mark, w₁, d, w₁', f', args, w₂, he, hres, hinv, hF, hcall⟩ := h
  rw [← hb, ← hro] at he
  have henter := stepR_rangeFunc (P := P) (b := b) (a := a) (k := k) (cs := cs) (w := w) he hres hinv
  obtain ⟨e, w₃, fr, hR, hsteps, hfn, hleave⟩ := hcall (b.atR { a with defers := mark ++ a.defers } (.inRangeFunc l :: k) :: cs) (room_wide _)
  cases e with
  | outgrown => exact hR.elim
  | returned v =>
    obtain ⟨w₄, hend, hj⟩ := hR
    refine ⟨.normal, _, w₄, hj, .head (fenced_wide _ _) henter (StepsIn.trans hsteps (.head (fenced_wide _ _) ?_ (.one (fenced_wide _ _) (stepR_endRangeFunc hend))))⟩
    rw [← finish_atR_inRangeFunc l v]; exact step_leave_returned hleave
  | panicked chain =>
    refine ⟨.panic chain, _, w₃, hR, .inRangeFunc l :: k, .head (fenced_wide _ _) henter (StepsIn.trans hsteps (.one (fenced_wide _ _) ?_))⟩
    rw [← Frame.raise_atR]; exact step_leave_panicked hleave
end
/-- A function's contract from its body. -/
theorem calls_of_wpF {n : Nat} {fn : Func} {c : Code} {args : Array Value} {w : World} {R : Ending → World → Prop}
    (hf : P.funcs[f]? = some fn) (hb : fn.body = some c)
    (h : wpF f P c (bodyPostM Fence.wide n P fn R) { tmps := args ++ Array.replicate (fn.ntmps - args.size) undef, defers := [] } w) : Calls P f args w R := by
  refine (callsIn_wide (n := n)).1 ⟨trivial, fun cs hr => ?_⟩
  have hF : Fence.wide.fn f := trivial
  let b : Frame := { (default : Frame) with fn := f, kind := .normal, roundOf := none }
  have henter : Frame.enter P f args .normal =
      b.atR { tmps := args ++ Array.replicate (fn.ntmps - args.size) undef, defers := [] } [.code c] := by
    simp [Frame.enter, Frame.atR, hf, hb, b]
  obtain ⟨e, a', w', hq, harr⟩ := h b [] cs rfl rfl
  rw [← henter] at harr
  cases e with
  | normal =>
    obtain ⟨e', w'', fr', hR, hs, hfn, hl⟩ := leaves_stepsInM a'.defers .returning w' { b.atR a' [] with mode := .returning } cs rfl rfl rfl hf rfl hF hr hq
    exact ⟨e', w'', fr', hR, ComesIn.of_steps (StepsIn.trans harr (.one (fenced_calm (fr := b.atR a' []) hF hr rfl) (stepR_end rfl))) hs, hfn, hl⟩
  | ret =>
    obtain ⟨todo, hs₀⟩ := harr.1 rfl
    obtain ⟨e', w'', fr', hR, hs, hfn, hl⟩ := leaves_stepsInM a'.defers .returning w' { b.atR a' todo with mode := .returning } cs rfl rfl rfl hf rfl hF hr hq
    exact ⟨e', w'', fr', hR, ComesIn.of_steps hs₀ hs, hfn, hl⟩
  | panic chain =>
    obtain ⟨todo, hs₀⟩ := harr
    obtain ⟨e', w'', fr', hR, hs, hfn, hl⟩ := leaves_stepsInM a'.defers (.panicking chain) w' { b.atR a' todo with mode := .panicking chain } cs rfl rfl rfl hf rfl hF hr hq
    exact ⟨e', w'', fr', hR, ComesIn.of_steps hs₀ hs, hfn, hl⟩
  | exit id => exact hq.elim
  | goto l => exact hq.elim
  | outgrown => exact ⟨.outgrown, w', b, hq, harr.resolve_left (by simp [b]), rfl, trivial⟩
end Go.Proofs.YtjagfeihmnagkaaGreatDoor

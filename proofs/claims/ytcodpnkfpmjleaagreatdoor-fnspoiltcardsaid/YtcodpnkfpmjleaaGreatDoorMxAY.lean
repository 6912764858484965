/- A round of a range over a function that is left by a panic. Own work, along the lines of the library's law for the other ways out. -/
import Derived.RangeFuncIn
import Derived.Test.YtcodpnkfpmjleaaGreatDoorProg
import Derived.Test.YtcodpnkfpmjleaaGreatDoorRiL
import Derived.RangeFuncCalls
import Derived.RangeFuncLeaves
import Derived.Shelf.SlIter.Collect
namespace Go.Proofs.YtcodpnkfpmjleaaGreatDoor
open Go
variable {F : Fence} {n : Nat} {P : Program}

/-- What is asked at a round's end, a panic taken in. -/
def roundPostP (P : Program) (l : Nat) (R : Ending → World → Prop) : Exit → Act → World → Prop
  | .panic chain, a, w => a.defers = [] ∧ R (.panicked chain) w
  | .normal, a, w => roundPost P l R .normal a w
  | .ret, a, w => roundPost P l R .ret a w
  | .exit id, a, w => roundPost P l R (.exit id) a w
  | .goto t, a, w => roundPost P l R (.goto t) a w
  | .outgrown, a, w => roundPost P l R .outgrown a w
theorem roundIn_of_wpInP {l : Nat} {f : FuncId} {fn : Func} {tmps : Array Value} {assign body : Code} {w : World} {R : Ending → World → Prop} (hF : F.fn f) (hf : P.funcs[f]? = some fn)
    (h : assign.wpIn (F.inRound l) n P (Exit.then (fun a₁ w₁ => ∃ w₂, (Instr.beginRound l).run P w₁ = .ok () w₂ ∧ body.wpIn (F.inRound l) n P (roundPostP P l R) a₁ w₂) (fun _ _ _ => False))
      { tmps := tmps, defers := [] } w) :
    RoundIn F n P l f tmps assign body w R := by
  refine ⟨hF, fun c cs hr => ?_⟩
  let b : Frame := { (default : Frame) with fn := f, kind := .normal, roundOf := some l }
  have hb0 : Frame.round l f tmps assign body .normal = b.atR { tmps := tmps, defers := [] } [.code assign, .beginRound, .code body] := by
    simp [Frame.round, Frame.atR, b]
  have hr' : (F.inRound l).room ((c :: cs).length + 1 + n) := hr
  have hF' : (F.inRound l).fn b.fn := hF
  obtain ⟨e, a₁, w₁, hq, harr⟩ := h b [.beginRound, .code body] (c :: cs) rfl hF' hr'
  rw [← hb0] at harr
  cases e with
  | normal =>
    obtain ⟨w₂, hbr, hbody⟩ := hq
    have s1 : StepsIn (Machine.fenced P (F.inRound l)) P (lone (b.atR a₁ [.beginRound, .code body]) (c :: cs) w₁) (lone (b.atR a₁ [.code body]) (c :: cs) w₂) :=
      .one (fenced_calm (fr := b.atR a₁ [.beginRound, .code body]) hF' hr' rfl) (stepR_beginRound rfl hbr)
    obtain ⟨e₂, a₂, w₃, hq₂, harr₂⟩ := hbody b [] (c :: cs) rfl hF' hr'
    cases e₂ with
    | normal =>
      obtain ⟨v, w₄, hend, hR⟩ := hq₂
      exact ⟨.returned v, w₄, hR, (StepsIn.trans harr s1).trans (StepsIn.trans harr₂ (.one (fenced_calm (fr := b.atR a₂ []) hF' hr' rfl) (stepR_round_end rfl rfl hend)))⟩
    | ret =>
      obtain ⟨v, w₄, hend, hR⟩ := hq₂
      obtain ⟨k₁, hs⟩ := harr₂.2 rfl
      exact ⟨.returned v, w₄, hR, (StepsIn.trans harr s1).trans (StepsIn.trans hs (.one (fenced_calm (fr := b.atR a₂ (.code .ret :: k₁)) hF' hr' rfl) (stepR_round_ret rfl rfl hend)))⟩
    | exit id =>
      obtain ⟨v, w₄, hend, hR⟩ := hq₂
      obtain ⟨k₁, hk, hs⟩ := harr₂.2 rfl rfl
      exact ⟨.returned v, w₄, hR, (StepsIn.trans harr s1).trans (StepsIn.trans hs (.one (fenced_calm (fr := b.atR a₂ (.code (.exit id) :: k₁)) hF' hr' rfl) (stepR_round_exit rfl rfl hk hend)))⟩
    | goto t =>
      obtain ⟨v, w₄, hend, hR⟩ := hq₂
      obtain ⟨k₁, hk, hs⟩ := harr₂.2 rfl rfl
      exact ⟨.returned v, w₄, hR, (StepsIn.trans harr s1).trans (StepsIn.trans hs (.one (fenced_calm (fr := b.atR a₂ (.code (.goto t) :: k₁)) hF' hr' rfl) (stepR_round_goto rfl rfl hk hend)))⟩
    | panic chain =>
      obtain ⟨hd, hR⟩ := hq₂
      obtain ⟨todo, hs⟩ := harr₂
      have hlv : Frame.leaving P ((b.atR a₂ todo).raise chain) w₃ (.panicked chain) := ⟨by simp [Frame.raise, Frame.atR], by simpa [Frame.raise, Frame.atR] using hd, fn, by simpa [Frame.raise, Frame.atR, b] using hf⟩
      exact ⟨.panicked chain, w₃, hR, (StepsIn.trans harr s1).trans (StepsIn.trans hs (.one (fenced_leaving (fr := (b.atR a₂ todo).raise chain) (by simpa [Frame.raise, Frame.atR] using hF') hr' hlv) (step_leave_panicked hlv)))⟩
    | outgrown => exact hq₂.elim
  | exit id => exact hq.elim
  | goto t => exact hq.elim
  | ret => exact hq.elim
  | panic chain => exact hq.elim
  | outgrown => exact hq.elim
end Go.Proofs.YtcodpnkfpmjleaaGreatDoor

/- impl: a line. Own work. -/
namespace Go.Proofs.YtcodpnkfpmjleaaGreatDoor
open Go.RowKit Go.Maps Go.Sort Go.Shelf
set_option maxHeartbeats 8000000
set_option maxRecDepth 100000

theorem words_any (l : Bl) (w : World) : Calls Tryz.prog 100 #[.string (sb l)] w fun e w' => e = .returned (.func (.func 125) #[] #[.pointer (some ⟨w.heap.size, 0, none⟩)]) ∧ w' = w.alloc (.cells #[.string (sb l)] 9) := by
  have hmf : ∀ fn first cap w, (Instr.makeFunc fn first cap).run Tryz.prog w = .ok (.func fn first cap) w := fun _ _ _ _ => rfl
  go_enter Tryz.func100, Tryz.ntmps100
  go_wp2_with fail
  go_ret
  exact ⟨rfl, rfl⟩
def strLen (v : Value) : Nat := match v with | .string s => s.size | _ => 0
theorem grow_below {w w' : World} (h : Below w.heap.size w w') : w.grownBy w' none := ⟨h.os, h.tape, h.output, h.size, fun k hk _ => h.block k hk⟩
theorem sb_take (t : Bl) (k : Nat) : (sb t).extract 0 k = sb (t.take k) := by rw [sb_slice, bs_sb, List.drop_zero, Nat.sub_zero]
theorem sb_drop (t : Bl) (k : Nat) (n : Nat) (hn : n = t.length) : (sb t).extract k n = sb (t.drop k) := by
  rw [sb_slice, bs_sb, List.take_of_length_le (by rw [List.length_drop, hn]; exact Nat.le_refl _)]
theorem trim_trim : ∀ l : Bl, Lib.trimLeftS (Lib.trimLeftS l [32, 9]) [32, 9] = Lib.trimLeftS l [32, 9]
  | [] => rfl
  | x :: l => by
    unfold Lib.trimLeftS
    by_cases h : ([32, 9] : Bl).contains x = true
    · rw [List.dropWhile_cons_of_pos h]
      exact trim_trim l
    · rw [List.dropWhile_cons_of_neg h, List.dropWhile_cons_of_neg h]
/-- The iterator over the words of a line. -/
theorem wordsIt_in (n : Nat) (hn : 1 ≤ n) (l Bm : Nat) (line : Bl) (hl : line.length ≤ 1048576) (J : List Bl → World → Prop)
    (hJ : ∀ pre W W', J pre W → Below W.heap.size W W' → J pre W')
    (hY : ∀ pre x post W, pre ++ x :: post = wordsL line → J pre W → YieldAt Fence.wide (n - 1) Tryz.prog l #[.string (sb x)] W fun e W' => e = .returned (.bool true) ∧ J (pre ++ [x]) W')
    (W : World) (hm : W.cell? ⟨Bm, 0, none⟩ = some (.string (sb line))) (hM : MX W) (h0 : J [] W) :
    CallsIn Fence.wide n Tryz.prog 125 #[.func (.yield l) #[] #[], .pointer (some ⟨Bm, 0, none⟩)] W fun e W' => (∃ v, e = .returned v) ∧ J (wordsL line) W' := by
  have HJ := hide hJ
  have HM := hide hM
  have H0 := hide h0
  have HY := hide hY
  have hlb := cell_lt hm
  clear hJ hM h0 hY
  refine callsIn_of_wp Tryz.func125 rfl trivial ?_ rfl
  simp only [Tryz.ntmps125, List.size_toArray, List.length_cons, List.length_nil, Nat.reduceAdd, Nat.reduceSub, Array.replicate_succ, Array.replicate_zero, List.push_toArray, List.append_toArray, List.nil_append, List.cons_append]
  gi_wp2_with fail
  refine ⟨trivial, (callsIn_wide.2 (cut_any line [35] _ hl HM.out)).mono ?_⟩
  rintro e w2 ⟨rfl, hb2⟩
  have HJ2 := hide (HJ.out [] _ _ H0.out hb2)
  have HW2 := hide (bare_words line)
  have HN2 := hide (bare_no line)
  have hle := bare_len line
  have hbe : (Lib.cut line [35]).1 = bare line := rfl
  rw [hbe]
  generalize bare line = rest at *
  clear hbe hb2
  gi_wp2_with fail
  gi_loopw [3, 6] (fun q3 _ wr => ∃ (pre : List Bl) (rest : Bl), q3 = .string (sb rest) ∧ rest.length ≤ line.length ∧ Hid (¬ (35 : UInt8) ∈ rest) ∧ Hid (pre ++ wordsL rest = wordsL line) ∧ Hid (J pre wr)) (fun q3 _ _ => strLen q3)
  case atStart => exact ⟨[], rest, rfl, hle, HN2, (by show _ = _; rw [HW2.out]; rfl), HJ2⟩
  case round =>
    clear HN2 HW2 HJ2 hle
    obtain ⟨pre, rest, rfl, hle, HN, HW, HJp⟩ := hrel
    rename World => wr
    gi_wp2_with fail
    refine ⟨trivial, (callsIn_wide.2 (trim_any rest _)).mono ?_⟩
    rintro e w3 ⟨rfl, hb3⟩
    have HJ3 := hide (HJ.out pre _ _ HJp.out hb3)
    have HW3 := hide (show pre ++ wordsL (Lib.trimLeftS rest [32, 9]) = wordsL line by rw [← words_trim]; exact HW.out)
    have HN3 := hide (trim_no HN.out)
    have hl3 := trim_len rest
    have HT3 := hide (trim_trim rest)
    generalize Lib.trimLeftS rest [32, 9] = t at *
    clear hb3 HW HN HJp
    by_cases ht : t = []
    · have gt : ((sb t).toList == []) = true := by rw [sb_toList, ht]; rfl
      have ge := sb_empty ht
      have HE := hide (show pre = wordsL line by have h := HW3.out; rw [ht] at h; simpa [wordsL, wordsG, putW] using h)
      clear ht
      gi_wp2_with fail
      (try simp only [Exit.inBlock, Exit.then])
      refine bodyPost_ret (results_none rfl _ _ _) rfl ?_
      exact ⟨⟨_, rfl⟩, by rw [← HE.out]; exact HJ3.out⟩
    · have ge := sb_some ht
      obtain ⟨hw, hpos⟩ := words_next HN3.out HT3.out ht
      have HWN := hide (show pre ++ t.take (wordTo t) :: wordsL (t.drop (wordTo t)) = wordsL line by rw [← hw]; exact HW3.out)
      have HN4 := hide (show ¬ (35 : UInt8) ∈ t.drop (wordTo t) from fun h => HN3.out (List.mem_of_mem_drop h))
      have hle4 := wordTo_le t
      clear hw ht
      gi_wp2_with fail
      refine ⟨trivial, (callsIn_wide.2 (idxAny_any t _ (by omega))).mono ?_⟩
      rintro e w4 ⟨rfl, hb4⟩
      have HJ4 := hide (HJ.out pre _ _ HJ3.out hb4)
      clear hb4
      obtain ⟨ix, hix⟩ : ∃ ix, Lib.indexAny t [32, 9] = ix := ⟨_, rfl⟩
      have hwt : wordTo t = if ix < 0 then t.length else ix.toNat := by unfold wordTo; rw [hix]
      rw [hix]
      clear hix
      have HSZ := hide (sb_size t)
      have hn1 : 1 ≤ n := hn
      by_cases hneg : ix < 0
      · have gneg : decide (ix < 0) = true := decide_eq_true hneg
        rw [if_pos hneg] at hwt
        have hwn := HWN.out
        rw [hwt, List.take_length, List.drop_length] at hwn
        obtain ⟨fn, tmps, assign, body, hy, hRy⟩ := HY.out pre t (wordsL []) w4 hwn HJ4.out
        have HG5 := hide (show (pre ++ [t]) ++ wordsL [] = wordsL line by rw [List.append_assoc]; exact hwn)
        have hpt : 0 < t.length := by omega
        clear hwt hwn hneg
        gi_wp2_with fail
        refine hRy.mono ?_
        rintro e w5 ⟨rfl, hJ5⟩
        have HJ5 := hide hJ5
        clear hJ5 hy hRy
        gi_wp2_with fail
        go_roundw
        case rel => exact ⟨pre ++ [t], [], rfl, by simp, (fun h => by cases h), HG5, HJ5⟩
        case measure =>
          show strLen (.string ByteArray.empty) < strLen (.string (sb rest))
          show 0 < (sb rest).size
          rw [sb_size]
          omega
      · have gneg : decide (ix < 0) = false := decide_eq_false hneg
        rw [if_neg hneg] at hwt
        obtain ⟨k, rfl⟩ := Int.eq_ofNat_of_zero_le (show 0 ≤ ix by omega)
        rw [Int.toNat_natCast] at hwt
        rw [hwt] at HWN HN4 hle4 hpos
        obtain ⟨fn, tmps, assign, body, hy, hRy⟩ := HY.out pre (t.take k) (wordsL (t.drop k)) w4 HWN.out HJ4.out
        rw [← sb_take] at hy
        have HX2 := hide (sb_drop t k (sb t).size (sb_size t))
        have HG5 := hide (show (pre ++ [t.take k]) ++ wordsL (t.drop k) = wordsL line by rw [List.append_assoc]; exact HWN.out)
        have hks : (k : Int) ≤ ((sb t).size : Int) := by rw [sb_size]; omega
        have hk0 : (0 : Int) ≤ (k : Int) := by omega
        clear hwt hneg
        gi_wp2_with fail
        refine hRy.mono ?_
        rintro e w5 ⟨rfl, hJ5⟩
        have HJ5 := hide hJ5
        clear hJ5 hy hRy
        gi_wp2_with fail
        go_roundw
        case rel => exact ⟨pre ++ [t.take k], t.drop k, by rw [HX2.out], by rw [List.length_drop]; omega, HN4, HG5, HJ5⟩
        case measure =>
          show ((sb t).extract k (sb t).size).size < (sb rest).size
          rw [HX2.out, sb_size, sb_size, List.length_drop]
          omega
/-! ### The words of a line, gathered -/
def rlAssign : Code := (Code.region 2 #[{ dst := some 5, op := Op.assign (Operand.tmp 8), type := 9, pos := "l2_text.go:133", after := #[], guard := none }] false)
def rlBody : Code := (Code.block 1 (Code.region 3 #[{ dst := some 9, op := Op.load 65 (Operand.tmp 4), type := 65, pos := "l2_text.go:134", after := #[], guard := none }, { dst := some 10, op := Op.move (Operand.tmp 5), type := 9, pos := "l2_text.go:134", after := #[], guard := none }, { dst := some 11, op := Op.buildSlice 65 1 #[(0, Operand.tmp 10)], type := 65, pos := "l2_text.go:134", after := #[{ on := 1, ground := Ground.data }], guard := none }, { dst := some 12, op := Op.call { callee := Callee.builtin Builtin.append, args := #[Operand.tmp 9, Operand.tmp 11], argTypes := #[65, 65] }, type := 65, pos := "l2_text.go:134", after := #[{ on := 0, ground := Ground.data }, { on := 2, ground := Ground.data }], guard := none }, { dst := none, op := Op.store 65 (Operand.tmp 4) (Operand.tmp 12), type := 0, pos := "l2_text.go:134", after := #[{ on := 3, ground := Ground.data }, { on := 3, ground := Ground.chain }, { on := 0, ground := Ground.phase }, { on := 1, ground := Ground.phase }, { on := 2, ground := Ground.phase }, { on := 3, ground := Ground.phase }], guard := none }] false))
def rlTmps (br : Nat) (l : Bl) (Bs Bm : Nat) (v5 v8 : Value) : Array Value := #[.pointer (some ⟨br, 0, none⟩), .string (sb l), undef, undef, .pointer (some ⟨Bs, 0, none⟩), v5, .string (sb l), .func (.func 125) #[] #[.pointer (some ⟨Bm, 0, none⟩)], v8, undef, undef, undef, undef, undef, undef, undef, undef, undef, undef, undef, undef, undef, undef, undef, undef, undef, undef, undef, undef, undef, undef, undef]
def rlRec (fn : FuncId) (br : Nat) (l : Bl) (Bs Bm D : Nat) (st : LoopState) (pend : Option Code) : Loop :=
  { state := st, pending := pend, fn, tmps := rlTmps br l Bs Bm undef undef, params := #[8], assign := rlAssign, body := rlBody, defers := D }
/-- Between two rounds. -/
structure RlAt (w0 : World) (fn : FuncId) (br : Nat) (l : Bl) (Bs Bm k D : Nat) (ss : List Bl) (W : World) : Prop where
  box : ∃ v, W.heap[Bs]? = some (.cells #[v] 65 (0, 0)) ∧ W.ownsRow w0.heap.size 9 1 v ss.length (strCells ss)
  L : W.heap[k]? = some (.loop (rlRec fn br l Bs Bm D .ready none))
  K : W.heap[D]? = some (.deferred (some []))
  below : Below w0.heap.size w0 W
theorem RlAt.later {w0 : World} {fn : FuncId} {br : Nat} {l : Bl} {Bs Bm k D : Nat} {ss : List Bl} {W W' : World} (h : RlAt w0 fn br l Bs Bm k D ss W) (hb : Below W.heap.size W W') : RlAt w0 fn br l Bs Bm k D ss W' := by
  obtain ⟨v, hv, hr⟩ := h.box
  have lt : ∀ {j : Nat} {o : Obj}, W.heap[j]? = some o → j < W.heap.size := fun hj => (Array.getElem?_eq_some_iff.1 hj).1
  exact ⟨⟨v, (hb.block Bs (lt hv)).trans hv, owns_later' hr hb⟩, (hb.block k (lt h.L)).trans h.L, (hb.block D (lt h.K)).trans h.K, h.below.trans (hb.mono h.below.size)⟩
theorem rlYield (m : Nat) (w0 : World) (fn : FuncId) (hfn : Fence.wide.fn fn) (br : Nat) (l : Bl) (Bs Bm k D : Nat) (hBl : Bs ≠ k) (hDl : D ≠ k) (hDB : D ≠ Bs) (h0B : w0.heap.size ≤ Bs) (h0l : w0.heap.size ≤ k) (ss : List Bl) (x : Bl) (W : World) (h : RlAt w0 fn br l Bs Bm k D ss W) (hlen : ss.length ≤ 100000) :
    YieldAt Fence.wide m Tryz.prog k #[.string (sb x)] W fun e W' => e = .returned (.bool true) ∧ RlAt w0 fn br l Bs Bm k D (ss ++ [x]) W' := by
  obtain ⟨i0, hi, hz0, hz1, hz2⟩ := info_parts infoStrR
  refine ⟨fn, rlTmps br l Bs Bm undef (.string (sb x)), rlAssign, rlBody, by simpa [rlRec, rlTmps] using run_yield (P := Tryz.prog) (args := #[.string (sb x)]) h.L rfl, roundIn_of_wpIn hfn ?_⟩
  unfold rlAssign rlTmps
  gi_wp2_with gi_round_op_a
  have hlW : k < W.heap.size := (Array.getElem?_eq_some_iff.1 h.L).1
  obtain ⟨v, hv, hrow⟩ := h.box
  have hbr := run_beginRound (P := Tryz.prog) h.L rfl
  obtain ⟨W2, hW2⟩ : ∃ W2, W.putObj k (.loop { rlRec fn br l Bs Bm D .ready none with state := .busy }) = W2 := ⟨_, rfl⟩
  rw [hW2] at hbr
  have hg2 : W.grownBy W2 (some k) := by rw [← hW2]; exact grownBy_putObj_a _ _ _
  have hv2 : W2.heap[Bs]? = some (.cells #[v] 65 (0, 0)) := by rw [← hW2]; exact (World.putObj_heap_other hBl).trans hv
  have hK2 : W2.heap[D]? = some (.deferred (some [])) := by rw [← hW2]; exact (World.putObj_heap_other hDl).trans h.K
  have hL2 : W2.heap[k]? = some (.loop { rlRec fn br l Bs Bm D .ready none with state := .busy }) := by rw [← hW2]; exact World.putObj_heap_same hlW
  have hrow2 : W2.ownsRow w0.heap.size 9 1 v ss.length (strCells ss) := hrow.kept hg2 (ownsRow_ne_a hrow h.L (fun cur e => by first | (exact absurd (Obj.cells.inj e).2.1 (by decide)) | cases e))
  have hb2 : Below w0.heap.size w0 W2 := h.below.grown hg2 h.below.size (fun k e => by cases e; exact h0l)
  obtain ⟨hc2, hf2⟩ := cell_of_box_a hv2
  have hBlt : Bs < W2.heap.size := (Array.getElem?_eq_some_iff.1 hv2).1
  have hl2 : k < W2.heap.size := (Array.getElem?_eq_some_iff.1 hL2).1
  have hDlt : D < W2.heap.size := (Array.getElem?_eq_some_iff.1 hK2).1
  have ne_of : ∀ {j : Nat} {o : Obj}, W2.heap[j]? = some o → (∀ cur, o ≠ .cells cur 9 (0, 0)) → some j ≠ v.ownBlock := fun hj hno => by
    rcases ownsRow_ne_a hrow2 hj hno with e | e
    · rw [e]; simp
    · exact fun e' => e e'.symm
  refine ⟨W2, hbr, ?_⟩
  clear hW2
  unfold rlBody
  gi_wp2_with (first
    | (gi_at_builtin; refine wpListIn_append_own _ rfl _ _ 65 rfl w0.heap.size 9 i0 (.string ⟨#[]⟩) 1 16 Tryz.underlying65 hi hz0 hz1 hz2 rfl (by decide) _ _ _ rfl (hrow2.alloc _) ⟨W2.heap.size, 0, none⟩ 1 1 [.string (sb x)] rfl rfl (news_at (cs := #[.string (sb x)]) rfl) (by simp [Value.oneCell']) (by unfold maxLen; omega) (by omega) (by have := hb2.size; simp; omega) ?_; intro v' w3 hown' hg3 hnil3
       have hv3 : w3.heap[Bs]? = some (.cells #[v] 65 (0, 0)) := (hg3.block Bs (by simp; omega) (ne_of hv2 (fun cur e => by first | (exact absurd (Obj.cells.inj e).2.1 (by decide)) | cases e))).trans ((Below.heap_alloc _ _ Bs hBlt).trans hv2)
       obtain ⟨hc3, hf3⟩ := cell_of_box_a hv3
       obtain ⟨g', cap', cur', rfl, hbase', hgb', hr1, hr2, hr3, hr4⟩ : ∃ g' cap' cur', v' = .slice (some ⟨g', 0, none⟩) (ss.length + 1) cap' ∧ w0.heap.size ≤ g' ∧ w3.heap[g']? = some (.cells cur' 9 (0, 0)) ∧ ss.length + 1 ≤ cap' ∧ cap' ≤ maxLen ∧ cur'.size = cap' * 1 ∧ cur'.toList.take ((ss.length + 1) * 1) = strCells ss ++ [.string (sb x)] := by
         rcases hown'.2 with ⟨_, h0⟩ | h'
         · exact absurd h0 (by omega)
         · exact h'
       go_frame)
    | gi_round_op_a)
  have hg3' : (W2.alloc (.cells #[.string (sb x)] 9)).grownBy w3 v.ownBlock := hg3
  have hL3 : w3.heap[k]? = some (.loop { rlRec fn br l Bs Bm D .ready none with state := .busy }) := (hg3'.block k (by simp; omega) (ne_of hL2 (fun cur e => by first | (exact absurd (Obj.cells.inj e).2.1 (by decide)) | cases e))).trans ((Below.heap_alloc _ _ k hl2).trans hL2)
  have hK3 : w3.heap[D]? = some (.deferred (some [])) := (hg3'.block D (by simp; omega) (ne_of hK2 (fun cur e => by first | (exact absurd (Obj.cells.inj e).2.1 (by decide)) | cases e))).trans ((Below.heap_alloc _ _ D hDlt).trans hK2)
  obtain ⟨w4, hw4⟩ : ∃ w4, w3.setCell ⟨Bs, 0, none⟩ (.slice (some ⟨g', 0, none⟩) (ss.length + 1) cap') = w4 := ⟨_, rfl⟩
  rw [hw4]
  have hg4 : w3.grownBy w4 (some Bs) := by rw [← hw4]; exact grownBy_setCell0_a _ _ _
  have hv4 : w4.heap[Bs]? = some (.cells #[.slice (some ⟨g', 0, none⟩) (ss.length + 1) cap'] 65 (0, 0)) := by rw [← hw4]; exact heap_setCell_box_a _ hv3
  have hL4 : w4.heap[k]? = some (.loop { rlRec fn br l Bs Bm D .ready none with state := .busy }) := (hg4.block k (Array.getElem?_eq_some_iff.1 hL3).1 (fun e => hBl (by cases e; rfl))).trans hL3
  have hK4 : w4.heap[D]? = some (.deferred (some [])) := (hg4.block D (Array.getElem?_eq_some_iff.1 hK3).1 (fun e => hDB (by cases e; rfl))).trans hK3
  have hrow4 := hown'.kept hg4 (ownsRow_ne_a hown' hv3 (fun cur e => by first | (exact absurd (Obj.cells.inj e).2.1 (by decide)) | cases e))
  have hl4 : k < w4.heap.size := (Array.getElem?_eq_some_iff.1 hL4).1
  have hb3 : Below w0.heap.size w0 w3 := (hb2.alloc hb2.size _).grown hg3' (by have := hb2.size; simp; omega) (fun k e => (hrow2.lt k e).1)
  have hb4 : Below w0.heap.size w0 w4 := hb3.grown hg4 hb3.size (fun k e => by cases e; exact h0B)
  clear hw4
  refine ⟨_, _, run_endRound none hL4, rfl, ⟨⟨_, (World.putObj_heap_other hBl).trans hv4, ?_⟩, World.putObj_heap_same hl4, (World.putObj_heap_other hDl).trans hK4, hb4.grown (grownBy_putObj_a _ _ _) hb4.size (fun k e => by cases e; exact h0l)⟩⟩
  have hfin := hrow4.kept (grownBy_putObj_a w4 k (.loop { { rlRec fn br l Bs Bm D .ready none with state := .busy } with state := if (none : Option Code).isNone then .ready else .done, pending := none })) (ownsRow_ne_a hrow4 hL4 (fun cur e => by first | (exact absurd (Obj.cells.inj e).2.1 (by decide)) | cases e))
  rw [strCells_add, List.length_append]
  exact hfin
end Go.Proofs.YtcodpnkfpmjleaaGreatDoor

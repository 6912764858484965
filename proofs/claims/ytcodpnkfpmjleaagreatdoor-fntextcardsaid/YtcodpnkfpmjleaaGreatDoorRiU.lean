/- impl: a round of readText. Own work. -/
import Derived.Test.YtcodpnkfpmjleaaGreatDoorMxAY
namespace Go.Proofs.YtcodpnkfpmjleaaGreatDoor
open Go.RowKit Go.Maps Go.Sort Go.Shelf
set_option maxHeartbeats 8000000
set_option maxRecDepth 100000

def rtAssign : Code := (Code.region 5 #[{ dst := some 5, op := Op.assign (Operand.tmp 17), type := 9, pos := "l2_text.go:106", after := #[], guard := none }] false)
def rtBody : Code := (Code.block 1 ((Code.region 6 #[{ dst := some 18, op := Op.fieldAddr 129 (Operand.tmp 4) 0, type := 0, pos := "l2_text.go:107", after := #[], guard := none }, { dst := some 19, op := Op.load 3 (Operand.tmp 18), type := 3, pos := "l2_text.go:107", after := #[{ on := 0, ground := Ground.data }], guard := none }, { dst := some 20, op := Op.binOp BinOp.add 3 (Operand.tmp 19) (Operand.const (Value.int IntKind.i64 1)) 3, type := 3, pos := "l2_text.go:107", after := #[{ on := 1, ground := Ground.data }], guard := none }, { dst := some 21, op := Op.fieldAddr 129 (Operand.tmp 4) 0, type := 0, pos := "l2_text.go:107", after := #[{ on := 0, ground := Ground.phase }, { on := 1, ground := Ground.phase }, { on := 2, ground := Ground.phase }], guard := none }, { dst := none, op := Op.store 3 (Operand.tmp 21) (Operand.tmp 20), type := 0, pos := "l2_text.go:107", after := #[{ on := 3, ground := Ground.data }, { on := 2, ground := Ground.data }, { on := 0, ground := Ground.phase }, { on := 1, ground := Ground.phase }, { on := 2, ground := Ground.phase }], guard := none }] false).seq (Code.region 7 #[{ dst := some 22, op := Op.move (Operand.tmp 5), type := 9, pos := "l2_text.go:108", after := #[], guard := none }, { dst := some 23, op := Op.call { callee := Callee.value (Operand.func 65), args := #[Operand.tmp 4, Operand.tmp 22], argTypes := #[129, 9] }, type := 0, pos := "l2_text.go:108", after := #[{ on := 0, ground := Ground.data }], guard := none }] false)))
/-- What the other slots hold. -/
structure Xs where
  x0 : Value
  x2 : Value
  x3 : Value
  x6 : Value
  x7 : Value
  x8 : Value
  x9 : Value
  x10 : Value
  x11 : Value
  x12 : Value
  x13 : Value
  x14 : Value
  x15 : Value
  x16 : Value
def rtTmps (X : Xs) (br : Nat) (v5 v17 : Value) : Array Value := #[X.x0, undef, X.x2, X.x3, .pointer (some ⟨br, 0, none⟩), v5, X.x6, X.x7, X.x8, X.x9, X.x10, X.x11, X.x12, X.x13, X.x14, X.x15, X.x16, v17, undef, undef, undef, undef, undef, undef, undef, undef, undef, undef, undef]
def rtRec (X : Xs) (br D : Nat) (st : LoopState) (pend : Option Code) : Loop :=
  { state := st, pending := pend, fn := 27, tmps := rtTmps X br undef undef, params := #[17], assign := rtAssign, body := rtBody, defers := D }
/-- The two results' boxes. -/
structure NBo (Bn : Nat) (W : World) : Prop where
  n0 : W.cell? ⟨Bn, 0, none⟩ = some (.slice none 0 0)
  n1 : W.cell? ⟨Bn, 1, none⟩ = some (.slice none 0 0)
  e0 : W.cell? ⟨Bn + 1, 0, none⟩ = some .nilIface
  fn : ∀ o, W.frozen? ⟨Bn, o, none⟩ = false
  fe : ∀ o, W.frozen? ⟨Bn + 1, o, none⟩ = false
theorem NBo.on {S : Nat → Prop} {Bn : Nat} {W W' : World} (h : NBo Bn W) (ho : On S W W') (h0 : ¬ S Bn) (h1 : ¬ S (Bn + 1)) : NBo Bn W' :=
  ⟨ho.cell h0 h.n0, ho.cell h0 h.n1, ho.cell h1 h.e0, fun o => (ho.frozen (cell_lt h.n0) h0).trans (h.fn o), fun o => (ho.frozen (cell_lt h.e0) h1).trans (h.fe o)⟩
/-- Where all lies: A the first block of readText's own. -/
structure RtAt (w : World) (A : Nat) (X : Xs) (lines : List Bl) (T : Int × Int × Nt) (pre : List Bl) (W : World) : Prop where
  L : W.heap[A + 10]? = some (.loop (rtRec X (A + 5) (A + 9) .ready none))
  K : W.heap[A + 9]? = some (.deferred (some []))
  nb : NBo A W
  mx : MX W
  mlo : 1 < A
  below : Below A w W
  rd : ∃ pv jv ps js, RBk (A + 11) W (A + 5) pre.length pv jv ps js (A + 2) (A + 3) (A + 4) ∧ NSz ⟨ps, js.map (fun t : Jr => t.jt)⟩ pre.length ∧ JNm (js.map (fun t : Jr => t.jt)) ∧ readG ⟨ps, js.map (fun t : Jr => t.jt)⟩ pre.length (lines.drop pre.length) = T
/-- What is left where a round has panicked. -/
structure RtP (w : World) (A : Nat) (T : Int × Int × Nt) (c : List PanicEntry) (W : World) : Prop where
  K : W.heap[A + 9]? = some (.deferred (some []))
  nb : NBo A W
  below : Below A w W
  told : ∃ code line, c = leaveC code line ∧ T = (code, line, ⟨[], []⟩) ∧ code ≠ 0
theorem On.hold {S : Nat → Prop} {W W' : World} {b : Nat} {o : Obj} (h : On S W W') (hb : W.heap[b]? = some o) (hS : ¬ S b) : W'.heap[b]? = some o :=
  (h.block b (Array.getElem?_eq_some_iff.1 hb).1 hS).trans hb
theorem RtAt.on {w W W' : World} {A : Nat} {X : Xs} {lines : List Bl} {T : Int × Int × Nt} {pre : List Bl} (h : RtAt w A X lines T pre W) (ho : On (· = A + 6) W W') : RtAt w A X lines T pre W' := by
  have hA : A ≤ W.heap.size := by have := (Array.getElem?_eq_some_iff.1 h.L).1; omega
  obtain ⟨pv, jv, ps, js, h1, h2, h3, h4⟩ := h.rd
  obtain ⟨m, hm⟩ := h.mx
  have hml := h.mlo
  refine ⟨ho.hold h.L (by omega), ho.hold h.K (by omega), h.nb.on ho (by omega) (by omega), ⟨m, ho.cell (by omega) hm⟩, h.mlo, ho.below h.below (fun b e => by omega) hA, pv, jv, ps, js, ?_, h2, h3, h4⟩
  exact RBx.on h1 ho (by omega) (fun g hg e => by omega) (h1.pi.of_block (ho.block _ h1.pi.lt (by omega))) (h1.ei.of_block (ho.block _ h1.ei.lt (by omega))) (h1.si.of_block (ho.block _ h1.si.lt (by omega)))
theorem RBx.setLine {base br bp np be ne bn nn : Nat} {line : Int} {pv jv : Value} {ps pp : List Pc} {js : List Jr} {seen : List (Int × Int)} {names : List (List UInt8)} {w : World} (h : RBx base w br line pv jv ps js bp np pp be ne seen bn nn names) (line2 : Int) : RBx base (w.setCell ⟨br, 0, none⟩ (.int .i64 line2)) br line2 pv jv ps js bp np pp be ne seen bn nn names :=
  ⟨World.cell?_setCell_same _ _ _ h.c0, (box_set (by omega) _).trans h.c1, (box_set (by omega) _).trans h.c2, (box_set (by omega) _).trans h.c3, (box_set (by omega) _).trans h.c4, (box_set (by omega) _).trans h.c5, fun o => (World.frozen?_setCell _ _ _ _).trans (h.f o), ownsRow_setCell_below h.op h.lo.1 _, h.kr.setBelow h.lo.1 _,
    h.pi.of_block (Below.heap_setCell _ _ _ bp h.neP.symm), h.ei.of_block (Below.heap_setCell _ _ _ be h.neE.symm), h.si.of_block (Below.heap_setCell _ _ _ bn h.neN.symm), h.lo, h.dif, by rw [World.size_setCell]; exact h.hi⟩
theorem allEnds_bd {js : List Jt} (h : ∀ j ∈ js, j.ends.length ≤ 4) : (allEnds js).length ≤ 4 * js.length := by
  induction js with
  | nil => simp [allEnds]
  | cons j js ih =>
    have e : allEnds (j :: js) = j.ends ++ allEnds js := by simp [allEnds]
    rw [e, List.length_append, List.length_cons]
    have := h j List.mem_cons_self
    have := ih (fun k hk => h k (List.mem_cons_of_mem _ hk))
    omega
theorem namesJ_bd (js : List Jt) : (namesJ js).length ≤ js.length := by
  unfold namesJ
  rw [List.length_map]
  exact List.length_filter_le _ _
theorem NSz.line {N : Nt} {i : Nat} (h : NSz N i) (ws : List Bl) : NSz (lineL N ws).2 (i + 1) := by
  unfold lineL
  split
  · exact h.more
  · split
    · exact (h.piece _).1
    · exact (h.joint _).1
theorem JNm.line {N : Nt} (h : JNm N.jts) (ws : List Bl) : JNm (lineL N ws).2.jts := by
  unfold lineL
  split
  · exact h
  · split
    · exact h.piece _
    · exact h.joint _
theorem chg_low {base br bp np be ne bn nn b : Nat} {line : Int} {pv jv : Value} {ps pp : List Pc} {js : List Jr} {seen : List (Int × Int)} {names : List (List UInt8)} {w : World} (h : RBx base w br line pv jv ps js bp np pp be ne seen bn nn names) (hb : b < base) (h1 : b ≠ br) (h2 : b ≠ bp) (h3 : b ≠ be) (h4 : b ≠ bn) : ¬ Chg br bp be bn pv jv b := fun hC => by
  rcases hC with e | e | e | e | e | e
  · exact h1 e
  · exact h2 e
  · exact h3 e
  · exact h4 e
  · have := (h.op.lt b e).1; omega
  · have := (h.kr.own.lt b e).1; omega
theorem loop_c {r : Loop} : ∀ (cur : Array Value) (T : TypeId) (fz : Nat × Nat), Obj.loop r ≠ .cells cur T fz := fun _ _ _ h => by cases h
theorem loop_m {r : Loop} : ∀ (es : Array MapEntry) (clock : Nat), Obj.loop r ≠ .map es clock := fun _ _ h => by cases h
theorem On.putL (W : World) (k : Nat) (o : Obj) : On (· = k) W (W.putObj k o) := On.of_grown (grownBy_putObj_a _ _ _) (fun _ e => (Option.some.inj e).symm)
theorem rtYield (m : Nat) (w : World) (A : Nat) (X : Xs) (lines : List Bl) (T : Int × Int × Nt) (hll : lines.length ≤ 65537) (hlb : ∀ x ∈ lines, x.length ≤ 65536) (pre : List Bl) (x : Bl) (post : List Bl) (W : World) (he : pre ++ x :: post = lines) (h : RtAt w A X lines T pre W) :
    YieldAt Fence.wide m Tryz.prog (A + 10) #[.string (sb x)] W fun e W' => (e = .returned (.bool true) ∧ RtAt w A X lines T (pre ++ [x]) W' ∧ Stay3 (A + 7) (A + 6) (A + 8) W W') ∨ (∃ c, e = .panicked c ∧ RtP w A T c W') := by
  refine ⟨27, rtTmps X (A + 5) undef (.string (sb x)), rtAssign, rtBody, by simpa [rtRec, rtTmps] using run_yield (P := Tryz.prog) (args := #[.string (sb x)]) h.L rfl, roundIn_of_wpInP trivial Tryz.func27 ?_⟩
  unfold rtAssign rtTmps
  gi_wp2_with gi_round_op_a
  have hbr := run_beginRound (P := Tryz.prog) h.L rfl
  have hlW : A + 10 < W.heap.size := (Array.getElem?_eq_some_iff.1 h.L).1
  obtain ⟨pv, jv, ps, js, hR, hN, hJ, hG⟩ := h.rd
  have hxl : x ∈ lines := by rw [← he]; simp
  have hpl : pre.length < lines.length := by rw [← he]; simp
  have hdr : lines.drop pre.length = x :: lines.drop (pre.length + 1) := by rw [← he]; simp
  rw [hdr, readG] at hG
  obtain ⟨W2, hW2⟩ : ∃ W2, W.putObj (A + 10) (.loop { rtRec X (A + 5) (A + 9) .ready none with state := .busy }) = W2 := ⟨_, rfl⟩
  rw [hW2] at hbr
  refine ⟨W2, hbr, ?_⟩
  have hon2 : On (· = A + 10) W W2 := by rw [← hW2]; exact On.putL _ _ _
  have hL2 : W2.heap[A + 10]? = some (.loop { rtRec X (A + 5) (A + 9) .ready none with state := .busy }) := by rw [← hW2]; exact World.putObj_heap_same hlW
  have HR2 : Hid (RBk (A + 11) W2 (A + 5) pre.length pv jv ps js (A + 2) (A + 3) (A + 4)) := by rw [← hW2]; exact RBx.put hR h.L loop_c loop_m
  have c0 := HR2.out.c0
  have f0 := HR2.out.f 0
  have hl0 := cell_lt c0
  have hw1 : IntKind.i64.wrap ((pre.length : Int) + 1) = (pre.length : Int) + 1 := by rw [IntKind.wrap_i64]; omega
  have hon3 : On (fun b => b = A + 10 ∨ b = A + 5) W (W2.setCell ⟨A + 5, 0, none⟩ (.int .i64 ((pre.length : Int) + 1))) := (hon2.mono (fun b _ e => .inl e)).trans (On.set W2 (b := A + 5) (o := 0) (.inr rfl) _)
  have HO3 := hide hon3
  have HR3 := hide (RBx.setLine HR2.out ((pre.length : Int) + 1))
  have HL3 : Hid ((W2.setCell ⟨A + 5, 0, none⟩ (.int .i64 ((pre.length : Int) + 1))).heap[A + 10]? = some (.loop { rtRec X (A + 5) (A + 9) .ready none with state := .busy })) := (Below.heap_setCell _ _ _ (A + 10) (by show A + 10 ≠ A + 5; omega)).trans hL2
  have HK3 := hide (hon3.hold h.K (by omega))
  have HN3 := hide (h.nb.on hon3 (by omega) (by omega))
  have HM3 : Hid (MX (W2.setCell ⟨A + 5, 0, none⟩ (.int .i64 ((pre.length : Int) + 1)))) := by
    obtain ⟨m, hm⟩ := h.mx
    have := h.mlo
    exact ⟨m, hon3.cell (by omega) hm⟩
  have HB3 := hide (hon3.below h.below (fun b e => by omega) (by omega))
  clear hon2 hon3 hW2 hbr hL2
  have HG := hide hG
  have HN := hide hN
  have HJ := hide hJ
  have HH := hide h
  have hnp : ps.length ≤ 100000 := by have := hN.pcs; dsimp only at this; omega
  have hnj : js.length ≤ 100000 := by have := hN.jts; simp at this; omega
  have hne : (allEnds (js.map (fun t : Jr => t.jt))).length ≤ 500000 := by have h1 := allEnds_bd (fun j hj => (hN.jn j hj).2); have h2 := hN.jts; dsimp only at h1 h2; omega
  have hnn : (namesJ (js.map (fun t : Jr => t.jt))).length ≤ 100000 := by have h1 := namesJ_bd (js.map (fun t : Jr => t.jt)); have h2 := hN.jts; dsimp only at h2; omega
  have hx6 : x.length ≤ 65536 := hlb x hxl
  clear hG hN hJ h hR hdr
  unfold rtBody
  gi_wp2_with gi_round_op_a
  generalize W2.setCell ⟨A + 5, 0, none⟩ (.int .i64 ((pre.length : Int) + 1)) = W3 at *
  refine ⟨trivial, fun h => by simp [Fence.wide] at h, (CallsIn.inRound (A + 10) (callsIn_wide.2 (readLine_any (A + 5) (A + 11) (A + 2) (A + 3) (A + 4) x ((pre.length : Int) + 1) pv jv ps js W3 hx6 hnp hnj HJ.out hne hnn HM3.out HR3.out))).mono ?_⟩
  rintro e W4 ⟨h4, hon4⟩
  have nc : ∀ b, b < A + 11 → b ≠ A + 5 → b ≠ A + 2 → b ≠ A + 3 → b ≠ A + 4 → ¬ Chg (A + 5) (A + 2) (A + 3) (A + 4) pv jv b := fun b hb h1 h2 h3 h4 => chg_low HR3.out hb h1 h2 h3 h4
  have hK4 := hon4.hold HK3.out (nc _ (by omega) (by omega) (by omega) (by omega) (by omega))
  have hN4 := HN3.out.on hon4 (nc _ (by omega) (by omega) (by omega) (by omega) (by omega)) (nc _ (by omega) (by omega) (by omega) (by omega) (by omega))
  have hB4 : Below A w W4 := hon4.below HB3.out (fun b hC => by
    rcases Nat.lt_or_ge b A with hlt | hge
    · exact absurd hC (nc b (by omega) (by omega) (by omega) (by omega) (by omega))
    · exact hge) (by have := (Array.getElem?_eq_some_iff.1 HK3.out).1; omega)
  rcases h4 with ⟨hc, ⟨v4, rfl⟩, pv4, jv4, js4, hR4, hj4⟩ | ⟨hc, rfl⟩
  · have hG := HG.out
    rw [if_neg (by rw [hc]; simp)] at hG
    have hL4 := hon4.hold HL3.out (nc _ (by omega) (by omega) (by omega) (by omega) (by omega))
    have hl4 : A + 10 < W4.heap.size := (Array.getElem?_eq_some_iff.1 hL4).1
    have hst : Stay3 (A + 7) (A + 6) (A + 8) W W4 := ⟨(hon4.block _ (by have := HO3.out.size; omega) (nc _ (by omega) (by omega) (by omega) (by omega) (by omega))).trans (HO3.out.block _ (by omega) (by omega)), (hon4.block _ (by have := HO3.out.size; omega) (nc _ (by omega) (by omega) (by omega) (by omega) (by omega))).trans (HO3.out.block _ (by omega) (by omega)), (hon4.block _ (by have := HO3.out.size; omega) (nc _ (by omega) (by omega) (by omega) (by omega) (by omega))).trans (HO3.out.block _ (by omega) (by omega))⟩
    have hM4 : MX W4 := by
      obtain ⟨m, hm⟩ := HM3.out
      have := HH.out.mlo
      exact ⟨m, hon4.cell (nc _ (by omega) (by omega) (by omega) (by omega) (by omega)) hm⟩
    have HFIN : Hid (RtAt w A X lines T (pre ++ [x]) (W4.putObj (A + 10) (.loop (rtRec X (A + 5) (A + 9) .ready none)))) := by
      have ho5 := On.putL W4 (A + 10) (.loop (rtRec X (A + 5) (A + 9) .ready none))
      obtain ⟨m, hm⟩ := hM4
      have hml := HH.out.mlo
      refine ⟨World.putObj_heap_same hl4, ho5.hold hK4 (by omega), hN4.on ho5 (by omega) (by omega), ⟨m, ho5.cell (by omega) hm⟩, hml, ho5.below hB4 (fun b e => by omega) (by omega), pv4, jv4, (lineL ⟨ps, js.map (fun t : Jr => t.jt)⟩ (wordsL x)).2.pcs, js4, ?_, ?_, ?_, ?_⟩
      · rw [List.length_append, List.length_singleton]
        exact RBx.put hR4 hL4 loop_c loop_m
      · rw [hj4, List.length_append, List.length_singleton]
        exact HN.out.line _
      · rw [hj4]
        exact JNm.line HJ.out _
      · rw [hj4, List.length_append, List.length_singleton]
        exact hG
    have HST : Hid (Stay3 (A + 7) (A + 6) (A + 8) W (W4.putObj (A + 10) (.loop (rtRec X (A + 5) (A + 9) .ready none)))) := ⟨(World.putObj_heap_other (by omega)).trans hst.1, (World.putObj_heap_other (by omega)).trans hst.2.1, (World.putObj_heap_other (by omega)).trans hst.2.2⟩
    have HL4 := hide hL4
    clear hc hR4 hj4 hG hst hM4 hK4 hN4 hB4 hL4 hon4 nc
    gi_wp2_with gi_round_op_a
    exact ⟨_, _, run_endRound none HL4.out, .inl ⟨rfl, HFIN.out, HST.out⟩⟩
  · have hT : T = ((lineL ⟨ps, js.map (fun t : Jr => t.jt)⟩ (wordsL x)).1, (pre.length : Int) + 1, ⟨[], []⟩) := by
      have hG := HG.out
      rw [if_pos hc] at hG
      exact hG.symm
    exact ⟨rfl, .inr ⟨_, rfl, hK4, hN4, hB4, _, _, rfl, hT, hc⟩⟩
end Go.Proofs.YtcodpnkfpmjleaaGreatDoor

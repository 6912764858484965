/- The keys of a map of spots, gathered. Own work, along the lines of the library's texts on keys of one cell. -/
import Derived.Test.YtijdigdcmjdooaaGreatMxAN
import Derived.Test.YtijdigdcmjdooaaGreatDrS
import Derived.Shelf.SlIter.Collect
namespace Go.Proofs.YtijdigdcmjdooaaGreat
open Go.RowKit Go.Maps Go.Sort Go.Shelf
set_option maxHeartbeats 4000000
set_option maxRecDepth 100000

theorem keySp_str {v : Value} {kl : Lit} (h : keyOf Tryz.prog 29 v = some kl) : ∃ bs, kl = .string bs := by
  unfold keyOf at h
  rw [Tryz.underlying29] at h
  dsimp only at h
  split at h
  · obtain ⟨ls, _, e⟩ := Option.map_eq_some_iff.1 h
    exact ⟨_, e.symm⟩
  · cases h
/-- What has come so far. -/
structure CollS (out : List (Int × Int × Int)) (left : Lit → Bool) (ss : List (Int × Int × Int)) : Prop where
  nd : ss.Nodup
  keyed : ∀ s ∈ ss, ∃ kl, keyOf Tryz.prog 29 (spV s) = some kl
  mem : ∀ s kl, keyOf Tryz.prog 29 (spV s) = some kl → (s ∈ ss ↔ (s ∈ out ∧ left kl = false))
section
variable {out ss : List (Int × Int × Int)} {left : Lit → Bool} {D0 : DataW Unit}
theorem CollS.start (hD : ∀ s kl, keyOf Tryz.prog 29 (spV s) = some kl → Maps.has D0 kl = decide (s ∈ out)) : CollS out (Maps.has D0) [] :=
  ⟨List.nodup_nil, by simp, fun s kl hk => by rw [hD s kl hk]; simp⟩
theorem CollS.step (h : CollS out left ss) (hD : ∀ s kl, keyOf Tryz.prog 29 (spV s) = some kl → Maps.has D0 kl = decide (s ∈ out)) {x : Int × Int × Int} {kl : Lit} {y : DataW Unit} (hk : keyOf Tryz.prog 29 (spV x) = some kl) (hlk : left kl = true) (hat : ∀ zd, D0.atKey kl zd = y) : CollS out (fun z => left z && !z.sameKey kl) (ss ++ [x]) := by
  have hhas : Maps.has D0 kl = true := has_true_of_atKey hat
  have hin : x ∈ out := by rw [hD x kl hk] at hhas; exact of_decide_eq_true hhas
  have hnew : x ∉ ss := fun hx => by have := ((h.mem x kl hk).1 hx).2; rw [hlk] at this; cases this
  refine ⟨List.nodup_append.2 ⟨h.nd, by simp, fun a ha b hb => by simp at hb; subst hb; exact fun e => hnew (e ▸ ha)⟩, fun s hs => ?_, fun s kl' hk' => ?_⟩
  · rcases List.mem_append.1 hs with hs | hs
    · exact h.keyed s hs
    · rw [List.mem_singleton.1 hs]; exact ⟨kl, hk⟩
  · by_cases e : s = x
    · subst e
      obtain rfl : kl = kl' := by rw [hk] at hk'; exact Option.some.inj hk'
      have hs : kl.sameKey kl = true := WideAt.sameKey_self (lawSp.key hk)
      simp [hin, hs]
    · have hne : kl' ≠ kl := by
        intro hkk
        subst hkk
        exact e (spV_inj (lawSp.inj hk' hk))
      obtain ⟨b1, rfl⟩ := keySp_str hk
      obtain ⟨b2, rfl⟩ := keySp_str hk'
      have hs : (Lit.string b2).sameKey (.string b1) = false := by
        have : b2 ≠ b1 := fun e => hne (by rw [e])
        simp [Lit.sameKey, this]
      rw [List.mem_append, h.mem s _ hk', hs]
      simp [e]
theorem CollS.perm (h : CollS out left ss) (hnd : out.Nodup) (hwf : ∀ s ∈ out, WfS s) (hl : ∀ kl, left kl = false) : ss.Perm out := by
  refine (List.perm_ext_iff_of_nodup h.nd hnd).2 fun s => ⟨fun hs => ?_, fun hs => ?_⟩
  · obtain ⟨kl, hk⟩ := h.keyed s hs
    exact ((h.mem s kl hk).1 hs).1
  · obtain ⟨kl, hk⟩ := keySp (hwf s hs)
    exact (h.mem s kl hk).2 ⟨hs, hl kl⟩
end

theorem keysIt_in (n : Nat) (hn : 1 ≤ n) (l Bm b nn : Nat) (out : List (Int × Int × Int)) (D0 : DataW Unit) (hsz : Maps.size D0 = out.length) (hD : ∀ s kl, keyOf Tryz.prog 29 (spV s) = some kl → Maps.has D0 kl = decide (s ∈ out)) (hnd : out.Nodup) (hwf : ∀ s ∈ out, WfS s) (J : List (Int × Int × Int) → World → Prop)
    (hY : ∀ pre x W, J pre W → pre.length < out.length → YieldAt Fence.wide (n - 1) Tryz.prog l #[spV x] W fun e W' => e = .returned (.bool true) ∧ J (pre ++ [x]) W' ∧ KeepsWalks W W')
    (W : World) (hJ : AbidesFrom W.heap.size J) (hm : W.cell? ⟨Bm, 0, none⟩ = some (.map (some b))) (hown : W.ownsMap Tryz.prog 29 (plainElem Tryz.prog 3) b nn D0) (h0 : J [] W) :
    CallsIn Fence.wide n Tryz.prog 62 #[.func (.yield l) #[] #[], .pointer (some ⟨Bm, 0, none⟩)] W fun e W' => (∃ v, e = .returned v) ∧ ∃ ss : List (Int × Int × Int), ss.Perm out ∧ J ss W' := by
  refine callsIn_of_wp Tryz.func62 rfl trivial ?_ rfl
  simp only [Tryz.ntmps62, List.size_toArray, List.length_cons, List.length_nil, Nat.reduceAdd, Nat.reduceSub, Array.replicate_succ, Array.replicate_zero, List.push_toArray, List.append_toArray, List.nil_append, List.cons_append]
  gi_wp2_with (first
    | (gi_at_range; refine wpListIn_range_own _ rfl _ 72 rfl 29 3 lawSp Tryz.underlying72 _ b nn _ rfl hown ?_; intro w0 hrg0 hg0 hs0)
    | gi_in)
  go_frame
  gi_loopw [3] (fun _ wr => ∃ (left : Lit → Bool) (cnt : Nat) (ss : List (Int × Int × Int)), wr.ranges Tryz.prog 29 (plainElem Tryz.prog 3) b W.heap.size nn D0 left cnt ∧ ss.length + cnt ≤ out.length ∧ CollS out left ss ∧ J ss wr)
    (fun _ wr => wr.rangeLeft b W.heap.size)
  case atStart =>
    exact ⟨_, _, [], hrg0, by simp [hsz], CollS.start hD, hJ [] W w0 none h0 hg0 (fun r e => by cases e)⟩
  case round =>
    obtain ⟨left, cnt, ss, hrg, hcs, hC, hJs⟩ := hrel
    gi_wp2_with (first
      | (gi_at_next; refine wpListIn_next_ranges _ rfl _ rfl 29 lawSp (plainElem Tryz.prog 3) spV id (fun key kl hk => by obtain ⟨x, hx, _⟩ := keySp_inv hk; exact ⟨x, hx⟩) (fun v _ _ => ⟨v, rfl⟩) b W.heap.size nn _ _ _ rfl hrg ?_ ?_)
      | gi_in)
    · intro hc0 hl0
      gi_wp2
      go_end0
      exact ⟨⟨_, rfl⟩, ss, hC.perm hnd hwf hl0, hJs⟩
    · intro x0 x1 x2 c kl yd yp w2 cnt2 hkey hlk hv hat hrg2 hlt hg2 hs2 hen
      have hJ2 : J ss w2 := hJ ss wr w2 (some W.heap.size) hJs hg2 (fun r e => by cases e; exact ⟨Nat.le_refl _, hrg.iter_walk⟩)
      have hA : w2.grownBy (w2.alloc (.cells #[.int .i64 x0, .int .i64 x1, .int .i64 x2] 29)) none := ⟨rfl, rfl, rfl, by simp, fun k hk _ => Below.heap_alloc _ _ k hk⟩
      have hJA := hJ ss w2 _ none hJ2 hA (fun r e => by cases e)
      have hrA := hrg2.of_walks (KeepsWalks.alloc w2 (.cells #[.int .i64 x0, .int .i64 x1, .int .i64 x2] 29))
      obtain ⟨fn, tmps, assign, body, hy, hR⟩ := hY ss (x0, x1, x2) _ hJA (by omega)
      have HC := hide (hC.step hD hkey hlk hat)
      have HRA := hide hrA
      clear hs2 hkey hlk hv hat hrg2 hg2 hJ2 hA hJA hrA
      simp only [spV] at hen hy
      gi_wp2
      refine hR.mono ?_
      rintro e W3 ⟨rfl, hJ3, hk3⟩
      gi_wp2
      have hrg3 := HRA.out.of_walks hk3
      go_roundw
      case rel => exact ⟨_, cnt2, ss ++ [(x0, x1, x2)], hrg3, by simp; omega, HC.out, hJ3⟩
      case measure => rw [hrg3.left_eq, hrg.left_eq]; exact hlt
/-- The iterator's word. -/
theorem keys_gives (n : Nat) (hn : 1 ≤ n) (Bm b nn : Nat) (out : List (Int × Int × Int)) (hnd : out.Nodup) (hwf : ∀ s ∈ out, WfS s) (w : World) (hBm : Bm < w.heap.size) (hm : w.cell? ⟨Bm, 0, none⟩ = some (.map (some b))) (hT : TM w b nn out) :
    SeqGives Fence.wide n Tryz.prog 62 #[.pointer (some ⟨Bm, 0, none⟩)] spV (fun ss => ss.Perm out) out.length w := fun l J W hW hJ hY h0 => by
  obtain ⟨D0, hown, hsz, hD⟩ := hT.of_block (hW.block b hT.lt)
  exact keysIt_in n hn l Bm b nn out D0 hsz hD hnd hwf J hY W hJ ((hW.cell (p := ⟨Bm, 0, none⟩) hBm).trans hm) hown h0
/-! ### slices.AppendSeq -/
def apAssign : Code := (Code.region 2 #[{ dst := some 5, op := Op.alloc 29, type := 0, pos := "iter.go:51", after := #[], guard := none }, { dst := none, op := Op.store 29 (Operand.tmp 5) (Operand.tmp 7), type := 0, pos := "iter.go:51", after := #[{ on := 0, ground := Ground.data }, { on := 0, ground := Ground.phase }], guard := none }] false)
def apBody : Code := (Code.block 1 (Code.region 3 #[{ dst := some 8, op := Op.load 32 (Operand.tmp 2), type := 32, pos := "iter.go:52", after := #[], guard := none }, { dst := some 9, op := Op.load 29 (Operand.tmp 5), type := 29, pos := "iter.go:52", after := #[], guard := none }, { dst := some 10, op := Op.buildSlice 32 1 #[(0, Operand.tmp 9)], type := 32, pos := "iter.go:52", after := #[{ on := 1, ground := Ground.data }], guard := none }, { dst := some 11, op := Op.call { callee := Callee.builtin Builtin.append, args := #[Operand.tmp 8, Operand.tmp 10], argTypes := #[32, 32] }, type := 32, pos := "iter.go:52", after := #[{ on := 0, ground := Ground.data }, { on := 2, ground := Ground.data }], guard := none }, { dst := none, op := Op.store 32 (Operand.tmp 2) (Operand.tmp 11), type := 0, pos := "iter.go:52", after := #[{ on := 3, ground := Ground.data }, { on := 3, ground := Ground.chain }, { on := 0, ground := Ground.phase }, { on := 1, ground := Ground.phase }, { on := 2, ground := Ground.phase }, { on := 3, ground := Ground.phase }], guard := none }] false))
def apRec (fn : FuncId) (sv : Value) (Bs D : Nat) (st : LoopState) (pend : Option Code) : Loop :=
  { state := st, pending := pend, fn, tmps := #[.slice none 0 0, sv, .pointer (some ⟨Bs, 0, none⟩), undef, .slice none 0 0, undef, sv, undef, undef, undef, undef, undef, undef], params := #[7], assign := apAssign, body := apBody, defers := D }
theorem infoSpotK : (Tryz.prog.info? 29).map (fun i => (i.zero, i.size, i.bytes)) = some (some (.agg #[.int .i64 0, .int .i64 0, .int .i64 0]), 3, 24) := by kernel_rfl
/-- Between two rounds. -/
structure ApAt (w0 : World) (fn : FuncId) (sv : Value) (Bs l D : Nat) (ss : List (Int × Int × Int)) (W : World) : Prop where
  box : ∃ v, W.heap[Bs]? = some (.cells #[v] 32 (0, 0)) ∧ W.ownsRow w0.heap.size 29 3 v ss.length (partCells ss)
  L : W.heap[l]? = some (.loop (apRec fn sv Bs D .ready none))
  K : W.heap[D]? = some (.deferred (some []))
  below : Below w0.heap.size w0 W
theorem ap_abides (w0 : World) (fn : FuncId) (sv : Value) (Bs l D B : Nat) (hB : w0.heap.size ≤ B) : AbidesFrom B (ApAt w0 fn sv Bs l D) := fun s W W' row h hg hrow => by
  have hrow' : ∀ r, row = some r → ∃ o : Obj, W.heap[r]? = some o ∧ o.isWalk = true := fun r e => (hrow r e).2
  obtain ⟨v, hv, hr⟩ := h.box
  exact ⟨⟨v, (grownBy_keeps hg hrow' hv rfl).trans hv, ownsRow_abides_a hr hg hrow'⟩, (grownBy_keeps hg hrow' h.L rfl).trans h.L, (grownBy_keeps hg hrow' h.K rfl).trans h.K, h.below.grown hg h.below.size (fun k e => Nat.le_trans hB (hrow k e).1)⟩
theorem apYield (m : Nat) (w0 : World) (fn : FuncId) (hfn : Fence.wide.fn fn) (sv : Value) (Bs l D : Nat) (hBl : Bs ≠ l) (hDl : D ≠ l) (hDB : D ≠ Bs) (h0B : w0.heap.size ≤ Bs) (h0l : w0.heap.size ≤ l) (N : Nat) (hN : N ≤ 100000) (ss : List (Int × Int × Int)) (x : Int × Int × Int) (W : World) (h : ApAt w0 fn sv Bs l D ss W) (hlen : ss.length < N) :
    YieldAt Fence.wide m Tryz.prog l #[spV x] W fun e W' => e = .returned (.bool true) ∧ ApAt w0 fn sv Bs l D (ss ++ [x]) W' ∧ KeepsWalks W W' := by
  obtain ⟨i0, hi, hz0, hz1, hz2⟩ := info_parts infoSpotK
  refine ⟨fn, #[.slice none 0 0, sv, .pointer (some ⟨Bs, 0, none⟩), undef, .slice none 0 0, undef, sv, spV x, undef, undef, undef, undef, undef], apAssign, apBody, by simpa [apRec] using run_yield (P := Tryz.prog) (args := #[spV x]) h.L rfl, roundIn_of_wpIn hfn ?_⟩
  obtain ⟨x0, x1, x2⟩ := x
  unfold apAssign
  simp only [spV]
  gi_wp2_with gi_round_op_a
  have hlW : l < W.heap.size := (Array.getElem?_eq_some_iff.1 h.L).1
  have hA1 : W.grownBy (W.alloc (.cells #[.int .i64 x0, .int .i64 x1, .int .i64 x2] 29)) none := ⟨rfl, rfl, rfl, by simp, fun k hk _ => Below.heap_alloc _ _ k hk⟩
  have hk1 := KeepsWalks.alloc W (.cells #[.int .i64 x0, .int .i64 x1, .int .i64 x2] 29)
  replace h := ap_abides w0 fn sv Bs l D _ (Nat.le_refl _) ss W _ none h hA1 (fun r e => by cases e)
  have b0 := new_cell W #[.int .i64 x0, .int .i64 x1, .int .i64 x2] 29 0 (.int .i64 x0) rfl
  have b1 := new_cell W #[.int .i64 x0, .int .i64 x1, .int .i64 x2] 29 1 (.int .i64 x1) rfl
  have b2 := new_cell W #[.int .i64 x0, .int .i64 x1, .int .i64 x2] 29 2 (.int .i64 x2) rfl
  have hsW : (W.alloc (.cells #[.int .i64 x0, .int .i64 x1, .int .i64 x2] 29)).heap.size = W.heap.size + 1 := by simp
  generalize W.alloc (.cells #[.int .i64 x0, .int .i64 x1, .int .i64 x2] 29) = W1 at *
  clear hA1
  obtain ⟨v, hv, hrow⟩ := h.box
  have hbr := run_beginRound (P := Tryz.prog) h.L rfl
  obtain ⟨W2, hW2⟩ : ∃ W2, W1.putObj l (.loop { apRec fn sv Bs D .ready none with state := .busy }) = W2 := ⟨_, rfl⟩
  rw [hW2] at hbr
  have hl : l < W1.heap.size := by omega
  have hg2 : W1.grownBy W2 (some l) := by rw [← hW2]; exact grownBy_putObj_a _ _ _
  have hk2 : KeepsWalks W W2 := by rw [← hW2]; exact hk1.trans (KeepsWalks.putObj _ h.L rfl)
  have hv2 : W2.heap[Bs]? = some (.cells #[v] 32 (0, 0)) := by rw [← hW2]; exact (World.putObj_heap_other hBl).trans hv
  have hK2 : W2.heap[D]? = some (.deferred (some [])) := by rw [← hW2]; exact (World.putObj_heap_other hDl).trans h.K
  have hL2 : W2.heap[l]? = some (.loop { apRec fn sv Bs D .ready none with state := .busy }) := by rw [← hW2]; exact World.putObj_heap_same hl
  have hrow2 : W2.ownsRow w0.heap.size 29 3 v ss.length (partCells ss) := hrow.kept hg2 (ownsRow_ne_a hrow h.L (fun cur e => by first | (exact absurd (Obj.cells.inj e).2.1 (by decide)) | cases e))
  have hb2 : Below w0.heap.size w0 W2 := h.below.grown hg2 h.below.size (fun k e => by cases e; exact h0l)
  replace b0 := hg2.cell b0 (fun e => by have := Option.some.inj e; simp at this; omega)
  replace b1 := hg2.cell b1 (fun e => by have := Option.some.inj e; simp at this; omega)
  replace b2 := hg2.cell b2 (fun e => by have := Option.some.inj e; simp at this; omega)
  obtain ⟨hc2, hf2⟩ := cell_of_box_a hv2
  have hBlt : Bs < W2.heap.size := (Array.getElem?_eq_some_iff.1 hv2).1
  have hl2 : l < W2.heap.size := (Array.getElem?_eq_some_iff.1 hL2).1
  have hDlt : D < W2.heap.size := (Array.getElem?_eq_some_iff.1 hK2).1
  have ne_of : ∀ {j : Nat} {o : Obj}, W2.heap[j]? = some o → (∀ cur, o ≠ .cells cur 29 (0, 0)) → some j ≠ v.ownBlock := fun hj hno => by
    rcases ownsRow_ne_a hrow2 hj hno with e | e
    · rw [e]; simp
    · exact fun e' => e e'.symm
  refine ⟨W2, hbr, ?_⟩
  clear hW2 hsW
  unfold apBody
  gi_wp2_with (first
    | (gi_at_builtin; refine wpListIn_append_own _ rfl _ _ 32 rfl w0.heap.size 29 i0 (.agg #[.int .i64 0, .int .i64 0, .int .i64 0]) 3 24 Tryz.underlying32 hi hz0 hz1 hz2 rfl (by decide) _ _ _ rfl (hrow2.alloc _) ⟨W2.heap.size, 0, none⟩ 1 1 [.int .i64 x0, .int .i64 x1, .int .i64 x2] rfl rfl (news_at (cs := #[.int .i64 x0, .int .i64 x1, .int .i64 x2]) rfl) (by simp [Value.oneCell']) (by unfold maxLen; omega) (by omega) (by have := hb2.size; simp; omega) ?_; intro v' w3 hown' hg3 hnil3
       have hv3 : w3.heap[Bs]? = some (.cells #[v] 32 (0, 0)) := (hg3.block Bs (by simp; omega) (ne_of hv2 (fun cur e => by first | (exact absurd (Obj.cells.inj e).2.1 (by decide)) | cases e))).trans ((Below.heap_alloc _ _ Bs hBlt).trans hv2)
       obtain ⟨hc3, hf3⟩ := cell_of_box_a hv3
       obtain ⟨g', cap', cur', rfl, hbase', hgb', hr1, hr2, hr3, hr4⟩ : ∃ g' cap' cur', v' = .slice (some ⟨g', 0, none⟩) (ss.length + 1) cap' ∧ w0.heap.size ≤ g' ∧ w3.heap[g']? = some (.cells cur' 29 (0, 0)) ∧ ss.length + 1 ≤ cap' ∧ cap' ≤ maxLen ∧ cur'.size = cap' * 3 ∧ cur'.toList.take ((ss.length + 1) * 3) = partCells ss ++ [.int .i64 x0, .int .i64 x1, .int .i64 x2] := by
         rcases hown'.2 with ⟨_, h0⟩ | h'
         · exact absurd h0 (by omega)
         · exact h'
       go_frame)
    | gi_round_op_a)
  have hg3' : (W2.alloc (.cells #[.int .i64 x0, .int .i64 x1, .int .i64 x2] 29)).grownBy w3 v.ownBlock := hg3
  have hL3 : w3.heap[l]? = some (.loop { apRec fn sv Bs D .ready none with state := .busy }) := (hg3'.block l (by simp; omega) (ne_of hL2 (fun cur e => by first | (exact absurd (Obj.cells.inj e).2.1 (by decide)) | cases e))).trans ((Below.heap_alloc _ _ l hl2).trans hL2)
  have hK3 : w3.heap[D]? = some (.deferred (some [])) := (hg3'.block D (by simp; omega) (ne_of hK2 (fun cur e => by first | (exact absurd (Obj.cells.inj e).2.1 (by decide)) | cases e))).trans ((Below.heap_alloc _ _ D hDlt).trans hK2)
  obtain ⟨w4, hw4⟩ : ∃ w4, w3.setCell ⟨Bs, 0, none⟩ (.slice (some ⟨g', 0, none⟩) (ss.length + 1) cap') = w4 := ⟨_, rfl⟩
  rw [hw4]
  have hg4 : w3.grownBy w4 (some Bs) := by rw [← hw4]; exact grownBy_setCell0_a _ _ _
  have hv4 : w4.heap[Bs]? = some (.cells #[.slice (some ⟨g', 0, none⟩) (ss.length + 1) cap'] 32 (0, 0)) := by rw [← hw4]; exact heap_setCell_box_a _ hv3
  have hL4 : w4.heap[l]? = some (.loop { apRec fn sv Bs D .ready none with state := .busy }) := (hg4.block l (Array.getElem?_eq_some_iff.1 hL3).1 (fun e => hBl (by cases e; rfl))).trans hL3
  have hK4 : w4.heap[D]? = some (.deferred (some [])) := (hg4.block D (Array.getElem?_eq_some_iff.1 hK3).1 (fun e => hDB (by cases e; rfl))).trans hK3
  have hrow4 := hown'.kept hg4 (ownsRow_ne_a hown' hv3 (fun cur e => by first | (exact absurd (Obj.cells.inj e).2.1 (by decide)) | cases e))
  have hl4 : l < w4.heap.size := (Array.getElem?_eq_some_iff.1 hL4).1
  have hb3 : Below w0.heap.size w0 w3 := (hb2.alloc hb2.size _).grown hg3' (by have := hb2.size; simp; omega) (fun k e => (hrow2.lt k e).1)
  have hb4 : Below w0.heap.size w0 w4 := hb3.grown hg4 hb3.size (fun k e => by cases e; exact h0B)
  have hk4 : KeepsWalks W w4 := ((hk2.trans (KeepsWalks.alloc _ _)).trans (KeepsWalks.of_grownBy hg3' (ownsRow_not_walk_a (hrow2.alloc _)))).trans (by rw [← hw4]; exact KeepsWalks.setCell _ _ _)
  clear hw4
  refine ⟨_, _, run_endRound none hL4, rfl, ⟨⟨_, (World.putObj_heap_other hBl).trans hv4, ?_⟩, World.putObj_heap_same hl4, (World.putObj_heap_other hDl).trans hK4, hb4.grown (grownBy_putObj_a _ _ _) hb4.size (fun k e => by cases e; exact h0l)⟩, hk4.trans (KeepsWalks.putObj _ hL4 rfl)⟩
  have hfin := hrow4.kept (grownBy_putObj_a w4 l (.loop { { apRec fn sv Bs D .ready none with state := .busy } with state := if (none : Option Code).isNone then .ready else .done, pending := none })) (ownsRow_ne_a hrow4 hL4 (fun cur e => by first | (exact absurd (Obj.cells.inj e).2.1 (by decide)) | cases e))
  have e : partCells (ss ++ [(x0, x1, x2)]) = partCells ss ++ [.int .i64 x0, .int .i64 x1, .int .i64 x2] := by simp [partCells]
  rw [e, List.length_append]
  exact hfin
theorem appendSeq_any (g : Nat) (lb : Array Value) (eg : ∀ args w, (callFunc g args).run Tryz.prog w = .ok (.enter g args) w) (S : List (Int × Int × Int) → Prop) (N : Nat) (hN : N ≤ 100000) (w : World) (hseq : SeqGives Fence.wide 8 Tryz.prog g lb spV S N w) :
    Calls Tryz.prog 91 #[.slice none 0 0, .func (.func g) #[] lb] w fun e w' => ∃ (v : Value) (ss : List (Int × Int × Int)), e = .returned v ∧ S ss ∧ w'.ownsRow w.heap.size 29 3 v ss.length (partCells ss) ∧ Below w.heap.size w w' := by
  refine (callsIn_wide (n := 9)).1 ?_
  refine callsIn_of_wp_marks Tryz.func91 rfl trivial ?_ rfl
  simp only [Tryz.ntmps91, List.size_toArray, List.length_cons, List.length_nil, Nat.reduceAdd, Nat.reduceSub, Array.replicate_succ, Array.replicate_zero, List.push_toArray, List.append_toArray, List.nil_append, List.cons_append]
  gi_wp2
  refine wpIn_rangeFunc ?_
  intro fn hfn
  obtain ⟨W0, hW0⟩ : ∃ W0, w.alloc (.cells #[.slice none 0 0] 32) = W0 := ⟨_, rfl⟩
  have hs0 : W0.heap.size = w.heap.size + 1 := by rw [← hW0]; simp
  have hv0 : W0.heap[w.heap.size]? = some (.cells #[.slice none 0 0] 32 (0, 0)) := by rw [← hW0]; exact World.alloc_heap_new w _
  have hb0 : Below w.heap.size w W0 := by rw [← hW0]; exact (Below.refl _ w).alloc (Nat.le_refl _) _
  rw [hW0]
  obtain ⟨W1, hW1⟩ : ∃ W1, (W0.alloc (.deferred (some []))).alloc (.loop (apRec fn (.func (.func g) #[] lb) w.heap.size W0.heap.size .ready none)) = W1 := ⟨_, rfl⟩
  have hold : ∀ k, k < W0.heap.size → W1.heap[k]? = W0.heap[k]? := fun k hk => by
    rw [← hW1]; exact (Below.heap_alloc _ _ k (by simp; omega)).trans (Below.heap_alloc _ _ k hk)
  have hb1 : Below w.heap.size w W1 := by rw [← hW1]; exact (hb0.alloc hb0.size _).alloc (by have := hb0.size; simp; omega) _
  have hs1 : W1.heap.size = W0.heap.size + 2 := by rw [← hW1]; simp
  have hM : ApAt w fn (.func (.func g) #[] lb) w.heap.size (W0.heap.size + 1) W0.heap.size [] W1 :=
    ⟨⟨_, (hold w.heap.size (by omega)).trans hv0, ⟨rfl, .inl ⟨rfl, rfl⟩⟩⟩,
     by rw [← hW1]; have := World.alloc_heap_new (W0.alloc (.deferred (some []))) (.loop (apRec fn (.func (.func g) #[] lb) w.heap.size W0.heap.size .ready none)); rwa [World.size_alloc] at this,
     by rw [← hW1]; exact (Below.heap_alloc _ _ _ (by simp)).trans (World.alloc_heap_new W0 _), hb1⟩
  refine ⟨W0.heap.size + 1, [{ target := .collected W0.heap.size, args := #[] }], W1, { target := .fn (.func g) lb, args := #[.func (.yield (W0.heap.size + 1)) #[] #[]] }, W1, g,
    #[.func (.yield (W0.heap.size + 1)) #[] #[]] ++ lb, W1, ?_, ?_, ?_, ?_, fun _ => by omega, ?_⟩
  · rw [← hW1]; exact run_enterLoop_outer _ _ _ _ _
  · simp [resolve, go_sem]
  · intro f' hf'; trivial
  · simp [invoke, go_sem, eg]
  · refine (hseq (W0.heap.size + 1) (ApAt w fn (.func (.func g) #[] lb) w.heap.size (W0.heap.size + 1) W0.heap.size) W1 hb1 (ap_abides _ _ _ _ _ _ _ hb1.size)
      (fun pre x W hJ hl => apYield _ w fn hfn _ w.heap.size (W0.heap.size + 1) W0.heap.size (by omega) (by omega) (by omega) (Nat.le_refl _) (by omega) N hN pre x W hJ hl) hM).mono ?_
    rintro e W2 ⟨⟨v0, rfl⟩, ss, hS, h2⟩
    obtain ⟨v, hv, hrow⟩ := h2.box
    have hend := run_endLoop (P := Tryz.prog) h2.L (by simp [apRec])
    obtain ⟨W3, hW3⟩ : ∃ W3, W2.putObj (W0.heap.size + 1) (.loop { apRec fn (.func (.func g) #[] lb) w.heap.size W0.heap.size .ready none with state := .exhausted }) = W3 := ⟨_, rfl⟩
    rw [hW3] at hend
    have hg3 : W2.grownBy W3 (some (W0.heap.size + 1)) := by rw [← hW3]; exact grownBy_putObj_a _ _ _
    have hv3 : W3.heap[w.heap.size]? = some (.cells #[v] 32 (0, 0)) := by rw [← hW3]; exact (World.putObj_heap_other (by omega)).trans hv
    have hK3 : W3.heap[W0.heap.size]? = some (.deferred (some [])) := by rw [← hW3]; exact (World.putObj_heap_other (by omega)).trans h2.K
    have hrow3 := hrow.kept hg3 (ownsRow_ne_a hrow h2.L (fun cur e => by cases e))
    have hb3 : Below w.heap.size w W3 := h2.below.grown hg3 h2.below.size (fun k e => by cases e; omega)
    obtain ⟨hc3, hf3⟩ := cell_of_box_a hv3
    clear hW3
    refine ⟨none, W3, hend, ?_⟩
    gi_wp2
    rw [← hs0]
    refine ⟨by simp, .inl ⟨_, _, rfl, run_takeDeferred hK3, ?_⟩⟩
    exact ⟨_, results_tmp rfl _ _ _, v, ss, rfl, hS, hrow3.kept (grownBy_putObj_a _ _ _) (ownsRow_ne_a hrow3 hK3 (fun cur e => by cases e)), hb3.grown (grownBy_putObj_a _ _ _) hb3.size (fun k e => by cases e; omega)⟩
end Go.Proofs.YtijdigdcmjdooaaGreat

/- spec.l4from: rows of ways, what stays while they grow. Own work. -/
import Derived.Test.YtijdigdcmjdooaaGreatMxBA
namespace Go.Proofs.YtijdigdcmjdooaaGreat
open Go.RowKit Go.Sort
set_option maxHeartbeats 8000000
set_option maxRecDepth 100000

theorem cfs_form {w : World} {base : Nat} {v : Value} {l : List Cf} (h : w.ownsRow base 87 5 v l.length (cfCells l)) : ∃ z c, v = .slice z l.length c ∧ ∀ k (hk : k < l.length), ∃ g, z = some ⟨g, 0, none⟩ ∧ v.ownBlock = some g ∧ base ≤ g ∧ g < w.heap.size ∧ w.cell? ⟨g, k * 5, none⟩ = some (.int .i64 (lastS l[k].y).1) ∧ w.cell? ⟨g, k * 5 + 1, none⟩ = some (.int .i64 l[k].a) ∧ w.cell? ⟨g, k * 5 + 2, none⟩ = some (.int .i64 (lastS l[k].y).2) ∧ w.cell? ⟨g, k * 5 + 3, none⟩ = some (.int .i64 l[k].y.far) ∧ w.cell? ⟨g, k * 5 + 4, none⟩ = some (.slice l[k].z l[k].y.ss.length l[k].c) := by
  rcases id h.2 with ⟨rfl, h0⟩ | ⟨g, cap, cur, rfl, hb, hg, _⟩
  · exact ⟨none, 0, by rw [h0], fun k hk => by omega⟩
  · refine ⟨_, cap, rfl, fun k hk => ⟨g, rfl, rfl, hb, (h.lt g rfl).2, ?_⟩⟩
    obtain ⟨a0, a1, a2, a3, a4⟩ := cfCells_at l k hk
    exact ⟨(h.cellAt _ (by omega)).trans a0, (h.cellAt _ (by omega)).trans a1, (h.cellAt _ (by omega)).trans a2, (h.cellAt _ (by omega)).trans a3, (h.cellAt _ (by omega)).trans a4⟩
theorem cfs_at {w : World} {base g n cap : Nat} {l : List Cf} (h : w.ownsRow base 87 5 (.slice (some ⟨g, 0, none⟩) n cap) n (cfCells l)) {k : Nat} {i : Cf} (hk : l[k]? = some i) : w.cell? ⟨g, k * 5, none⟩ = some (.int .i64 (lastS i.y).1) ∧ w.cell? ⟨g, k * 5 + 1, none⟩ = some (.int .i64 i.a) ∧ w.cell? ⟨g, k * 5 + 2, none⟩ = some (.int .i64 (lastS i.y).2) ∧ w.cell? ⟨g, k * 5 + 3, none⟩ = some (.int .i64 i.y.far) ∧ w.cell? ⟨g, k * 5 + 4, none⟩ = some (.slice i.z i.y.ss.length i.c) := by
  have hl : l.length = n := by have := h.1; rw [cfCells_len] at this; omega
  obtain ⟨hk', rfl⟩ := List.getElem?_eq_some_iff.1 hk
  obtain ⟨a0, a1, a2, a3, a4⟩ := cfCells_at l k hk'
  exact ⟨(h.cellAt _ (by omega)).trans a0, (h.cellAt _ (by omega)).trans a1, (h.cellAt _ (by omega)).trans a2, (h.cellAt _ (by omega)).trans a3, (h.cellAt _ (by omega)).trans a4⟩
theorem set_same {α : Type} {l : List α} {i : Nat} {x : α} (h : l[i]? = some x) : l.set i x = l := by
  refine List.ext_getElem? fun j => ?_
  by_cases e : i = j
  · subst e
    obtain ⟨hi, _⟩ := List.getElem?_eq_some_iff.1 h
    rw [List.getElem?_set_self hi, h]
  · rw [List.getElem?_set_ne e]
theorem cfCells_far {bl : List Cf} {p : Nat} (hp : bl[p]? = some c0) : cfCells (bl.set p cN) = (cfCells bl).set (p * 5 + 3) (.int .i64 (-1)) := by
  obtain ⟨hk, e⟩ := List.getElem?_eq_some_iff.1 hp
  obtain ⟨a0, a1, a2, _, a4⟩ := cfCells_at bl p hk
  rw [e] at a0 a1 a2 a4
  rw [cfCells_set bl p cN hk]
  have h0 : (cfCells bl).set (p * 5) (.int .i64 (lastS cN.y).1) = cfCells bl := set_same a0
  have h1 : (cfCells bl).set (p * 5 + 1) (.int .i64 cN.a) = cfCells bl := set_same a1
  have h2 : (cfCells bl).set (p * 5 + 2) (.int .i64 (lastS cN.y).2) = cfCells bl := set_same a2
  rw [h0, h1, h2]
  refine set_same ?_
  rw [List.getElem?_set_ne (by omega)]
  exact a4
section
variable {w wr wr' : World} {v0 v1 lv nv : Value} {n2 bB kB : Nat} {bl line nx : List Cf} {kl : List Bool}
theorem FrI.far (h : FrI w wr v0 v1 n2 bB kB bl kl lv line nv nx) {p : Nat} (hp : bl[p]? = some c0) : FrI w (wr.setCell ⟨bB, p * 5 + 3, none⟩ (.int .i64 (-1))) v0 v1 n2 bB kB (bl.set p cN) kl lv line nv nx := by
  have hm : Mid bB (bB + 1) wr (wr.setCell ⟨bB, p * 5 + 3, none⟩ (.int .i64 (-1))) := Mid.set1 _
  obtain ⟨l1, l2, _, _⟩ := h.lo
  have hne := h.neK
  have hT := owns_type h.ob rfl (show (87 : TypeId) ≠ 132 by decide)
  refine ⟨hm.cell (by omega) h.n0, hm.cell (by omega) h.n1, h.below.trans ((hm.below (by omega)).mono (by omega)), ?_, owns_off h.ok hm (show some kB ≠ some bB from fun e => hne (Option.some.inj e)), owns_off h.ol hm h.d1, owns_off h.on hm h.d2, h.d1, h.d2, h.d3, fun i hi => ?_⟩
  · rw [cfCells_far hp]
    exact (h.ob.stored (p * 5 + 3) (.int .i64 (-1))).1
  · rcases hi with hi | hi
    · rcases List.mem_or_eq_of_mem_set hi with hi | rfl
      · exact (h.rs i (.inl hi)).mid hm hT
      · exact ⟨fun k hk => by simp [cN] at hk, fun b o e => by cases e⟩
    · exact (h.rs i (.inr hi)).mid hm hT
theorem FrI.app_len (h : FrI w wr v0 v1 n2 bB kB bl kl lv line nv nx) {g : Nat} (e : nv.ownBlock = some g) : w.heap.size + 2 ≤ g ∧ g < wr.heap.size := h.on.lt g e
/-- What is read of the two rows. -/
theorem FrI.kAt (h : FrI w wr v0 v1 n2 bB kB bl kl lv line nv nx) {p : Nat} {b : Bool} (hp : kl[p]? = some b) : wr.cell? ⟨kB, p, none⟩ = some (.bool b) := by
  have hl := h.len.2
  obtain ⟨hk, _⟩ := List.getElem?_eq_some_iff.1 hp
  have h1 := h.ok.cellAt p (by omega)
  rw [h1]
  simp [hp]
end
/-! ### Blocks between two marks stay -/
structure Keep3 (M : Nat) (w5 wx : World) (nv : Value) : Prop where
  size : w5.heap.size ≤ wx.heap.size
  block : ∀ b, M ≤ b → b < w5.heap.size → wx.heap[b]? = w5.heap[b]?
  off : ∀ g, nv.ownBlock = some g → g < M ∨ w5.heap.size ≤ g
section
variable {M : Nat} {w5 wx wx' : World} {nv : Value}
theorem Keep3.start (h : ∀ g, nv.ownBlock = some g → g < M) : Keep3 M w5 w5 nv := ⟨Nat.le_refl _, fun _ _ _ => rfl, fun g e => .inl (h g e)⟩
theorem Keep3.below (h : Keep3 M w5 wx nv) (hb : Below wx.heap.size wx wx') : Keep3 M w5 wx' nv :=
  ⟨Nat.le_trans h.size hb.size, fun b h1 h2 => (hb.block b (Nat.lt_of_lt_of_le h2 h.size)).trans (h.block b h1 h2), h.off⟩
theorem Keep3.mid (h : Keep3 M w5 wx nv) {g : Nat} (hm : Mid g (g + 1) wx wx') (hg : g < M) : Keep3 M w5 wx' nv :=
  ⟨Nat.le_trans h.size hm.size, fun b h1 h2 => (hm.block b (Nat.lt_of_lt_of_le h2 h.size) (by omega)).trans (h.block b h1 h2), h.off⟩
theorem Keep3.app (h : Keep3 M w5 wx nv) (hg : wx.grownBy wx' nv.ownBlock) {nv' : Value} (hn : ∀ g, nv'.ownBlock = some g → nv.ownBlock = some g ∨ wx.heap.size ≤ g) : Keep3 M w5 wx' nv' := by
  refine ⟨Nat.le_trans h.size hg.size, fun b h1 h2 => (hg.block b (Nat.lt_of_lt_of_le h2 h.size) (fun e => ?_)).trans (h.block b h1 h2), fun g e => ?_⟩
  · rcases h.off b e.symm with h' | h' <;> omega
  · rcases hn g e with h' | h'
    · exact h.off g h'
    · exact .inr (Nat.le_trans h.size h')
theorem Keep3.cell (h : Keep3 M w5 wx nv) {b o : Nat} {u : Value} (hb : M ≤ b) (hc : w5.cell? ⟨b, o, none⟩ = some u) : wx.cell? ⟨b, o, none⟩ = some u := by
  rw [World.cell?_of_block (a := ⟨b, o, none⟩) (h.block b hb (cell_lt hc))]
  exact hc
theorem Keep3.ends (h : Keep3 M w5 wx nv) {z : Option Addr} {l : List (Int × Int)} (hz : ∀ b o, z = some ⟨b, o, none⟩ → M ≤ b) (he : EndsAt w5 z l) : EndsAt wx z l := by
  intro k hk
  obtain ⟨b, o, rfl, c0, c1⟩ := he k hk
  exact ⟨b, o, rfl, h.cell (hz b o rfl) c0, h.cell (hz b o rfl) c1⟩
end
/-! ### How many there can be -/
theorem cands_len {G : Gr} {room : Int} (hx : ∀ e, (G.nx e).length ≤ 2) : ∀ (l : List Wy), (cands G room l).length ≤ 2 * l.length
  | [] => by simp [cands]
  | y :: l => by
    have ih := cands_len (room := room) hx l
    have e : cands G room (y :: l) = candsOf G room y (y.ss.getLast?.getD (0, 0)) ++ cands G room l := rfl
    have h1 := hx (headP (y.ss.getLast?.getD (0, 0)).1 (y.ss.getLast?.getD (0, 0)).2)
    rw [e, List.length_append, List.length_cons]
    simp only [candsOf, List.length_map]
    omega
theorem cands_succ {G : Gr} {room : Int} {line : List Cf} {j : Nat} (hj : j < line.length) : cands G room ((line.map Cf.y).take (j + 1)) = cands G room ((line.map Cf.y).take j) ++ candsOf G room line[j].y (lastS line[j].y) := by
  rw [List.take_succ_eq_append_getElem (by simpa using hj)]
  simp [cands, lastS]
theorem cfs_rd {w : World} {base n c : Nat} {z : Option Addr} {l : List Cf} (h : w.ownsRow base 87 5 (.slice z n c) l.length (cfCells l)) {k : Nat} (hk : k < l.length) : ∃ g, z = some ⟨g, 0, none⟩ ∧ w.cell? ⟨g, k * 5, none⟩ = some (.int .i64 (lastS l[k].y).1) ∧ w.cell? ⟨g, k * 5 + 1, none⟩ = some (.int .i64 l[k].a) ∧ w.cell? ⟨g, k * 5 + 2, none⟩ = some (.int .i64 (lastS l[k].y).2) ∧ w.cell? ⟨g, k * 5 + 3, none⟩ = some (.int .i64 l[k].y.far) ∧ w.cell? ⟨g, k * 5 + 4, none⟩ = some (.slice l[k].z l[k].y.ss.length l[k].c) := by
  obtain ⟨z', c', e, hf⟩ := cfs_form h
  obtain ⟨g, hz, _, _, _, h5⟩ := hf k hk
  have e1 : z = z' := by simp only [Value.slice.injEq] at e; exact e.1
  exact ⟨g, e1.trans hz, h5⟩
/-- While rows are marked that hold nothing. -/
def EndR (best : Int × Int → Option Wy) (bl bl' : List Cf) (n2 p : Nat) : Prop :=
  ∀ r, r < n2 → (r < p → (best (stepAt r) = none ∧ bl'[r]? = some cN) ∨ ∃ i, best (stepAt r) = some i.y ∧ bl'[r]? = some i) ∧ (p ≤ r → bl'[r]? = bl[r]?)
theorem EndR.start (best : Int × Int → Option Wy) (bl : List Cf) (n2 : Nat) : EndR best bl bl n2 0 := fun r _ => ⟨fun h => by omega, fun _ => rfl⟩
theorem EndR.none {best : Int × Int → Option Wy} {bl bl' : List Cf} {n2 p : Nat} (h : EndR best bl bl' n2 p) (hp : p < n2) (hl : bl'.length = n2) (hb : best (stepAt p) = none) : EndR best bl (bl'.set p cN) n2 (p + 1) := by
  intro r hr
  by_cases e : r = p
  · subst e
    exact ⟨fun _ => .inl ⟨hb, by simp [hl, hr]⟩, fun h => by omega⟩
  · rw [List.getElem?_set_ne (fun h => e h.symm)]
    exact ⟨fun h' => (h r hr).1 (by omega), fun h' => (h r hr).2 (by omega)⟩
theorem EndR.some {best : Int × Int → Option Wy} {bl bl' : List Cf} {n2 p : Nat} (h : EndR best bl bl' n2 p) (hp : p < n2) {i : Cf} (hb : best (stepAt p) = some i.y) (hi : bl[p]? = some i) : EndR best bl bl' n2 (p + 1) := by
  intro r hr
  by_cases e : r = p
  · subst e
    exact ⟨fun _ => .inr ⟨i, hb, ((h r hr).2 (Nat.le_refl _)).trans hi⟩, fun h => by omega⟩
  · exact ⟨fun h' => (h r hr).1 (by omega), fun h' => (h r hr).2 (by omega)⟩
/-- A way that is made longer: its box, and its steps, which are a row of their own. -/
structure XB (W wi : World) (bX : Nat) (x0 x1 x2 x3 : Int) (xv : Value) (l : List (Int × Int)) : Prop where
  below : Below W.heap.size W wi
  lo : W.heap.size ≤ bX
  c0 : wi.cell? ⟨bX, 0, none⟩ = some (.int .i64 x0)
  c1 : wi.cell? ⟨bX, 1, none⟩ = some (.int .i64 x1)
  c2 : wi.cell? ⟨bX, 2, none⟩ = some (.int .i64 x2)
  c3 : wi.cell? ⟨bX, 3, none⟩ = some (.int .i64 x3)
  c4 : wi.cell? ⟨bX, 4, none⟩ = some xv
  f4 : wi.frozen? ⟨bX, 4, none⟩ = false
  own : wi.ownsRow (bX + 1) 132 2 xv l.length (lieCells l)
section
variable {W wi wj w7 : World} {bX : Nat} {x0 x1 x2 x3 : Int} {xv : Value} {l : List (Int × Int)}
theorem XB.later (h : XB W wi bX x0 x1 x2 x3 xv l) (hb : Below wi.heap.size wi wj) : XB W wj bX x0 x1 x2 x3 xv l :=
  ⟨h.below.trans (hb.mono h.below.size), h.lo, cell_later' hb h.c0, cell_later' hb h.c1, cell_later' hb h.c2, cell_later' hb h.c3, cell_later' hb h.c4, frozen_later hb h.c4 h.f4, owns_later' h.own hb⟩
theorem XB.add (h : XB W wj bX x0 x1 x2 x3 xv l) (hg : wj.grownBy w7 xv.ownBlock) {g cp : Nat} {y1 y2 : Int} (hown : w7.ownsRow (bX + 1) 132 2 (.slice (some ⟨g, 0, none⟩) (l.length + 1) cp) (l.length + 1) (lieCells l ++ [.int .i64 y1, .int .i64 y2])) : XB W (w7.setCell ⟨bX, 4, none⟩ (.slice (some ⟨g, 0, none⟩) (l.length + 1) cp)) bX x0 x1 x2 x3 (.slice (some ⟨g, 0, none⟩) (l.length + 1) cp) (l ++ [(y1, y2)]) := by
  have hX := cell_lt h.c0
  have hne : some bX ≠ xv.ownBlock := fun e => by have := (h.own.lt bX e.symm).1; omega
  have eB : w7.heap[bX]? = wj.heap[bX]? := hg.block bX hX hne
  have hc : ∀ o u, wj.cell? ⟨bX, o, none⟩ = some u → w7.cell? ⟨bX, o, none⟩ = some u := fun o u hc => by rw [World.cell?_of_block (a := ⟨bX, o, none⟩) eB]; exact hc
  have hm : Mid bX (bX + 1) w7 (w7.setCell ⟨bX, 4, none⟩ (.slice (some ⟨g, 0, none⟩) (l.length + 1) cp)) := Mid.set1 _
  have hgB := (hown.lt g rfl).1
  have hst := h.below.size
  refine ⟨?_, h.lo, ?_, ?_, ?_, ?_, ?_, ?_, ?_⟩
  · have h7 : Below W.heap.size W w7 := ⟨hg.os.trans h.below.os, hg.tape.trans h.below.tape, hg.output.trans h.below.output, Nat.le_trans h.below.size hg.size, fun k hk => (hg.block k (by omega) (fun e => by have := (h.own.lt k e.symm).1; have := h.lo; omega)).trans (h.below.block k hk)⟩
    exact h7.trans ((hm.below (by have := hg.size; omega)).mono h.lo)
  · exact (World.cell?_setCell_other _ _ _ _ (by simp)).trans (hc _ _ h.c0)
  · exact (World.cell?_setCell_other _ _ _ _ (by simp)).trans (hc _ _ h.c1)
  · exact (World.cell?_setCell_other _ _ _ _ (by simp)).trans (hc _ _ h.c2)
  · exact (World.cell?_setCell_other _ _ _ _ (by simp)).trans (hc _ _ h.c3)
  · exact World.cell?_setCell_same _ _ _ (hc _ _ h.c4)
  · exact (World.frozen?_setCell _ _ _ _).trans (by rw [World.frozen?_of_block (a := ⟨bX, 4, none⟩) eB]; exact h.f4)
  · have h' := owns_off hown hm (show some g ≠ some bX from fun e => by have := Option.some.inj e; omega)
    rw [lieCells_add2, List.length_append]
    exact h'
end
end Go.Proofs.YtijdigdcmjdooaaGreat

/- spec.l4from: rounds, and what becomes of them. Own work. -/
namespace Go.Proofs.YtijdigdcmjdooaaGreat
open Go.RowKit Go.Sort
set_option maxHeartbeats 8000000
set_option maxRecDepth 100000

theorem infoBool : (Tryz.prog.info? 4).map (fun i => (i.zero, i.size, i.bytes)) = some (some (.bool false), 1, 1) := by kernel_rfl
theorem made_zero (n : Nat) : cfCells (List.replicate n c0) = (madeCells #[.int .i64 0, .int .i64 0, .int .i64 0, .int .i64 0, .slice none 0 0] (n * 5)).toList := by
  refine List.ext_getElem? fun i => ?_
  by_cases hi : i < n * 5
  · have hk : i / 5 < (List.replicate n c0).length := by simp; omega
    obtain ⟨h0, h1, h2, h3, h4⟩ := cfCells_at (List.replicate n c0) (i / 5) hk
    have hr : (madeCells #[.int .i64 0, .int .i64 0, .int .i64 0, .int .i64 0, .slice none 0 0] (n * 5)).toList[i]? = some (#[.int .i64 0, .int .i64 0, .int .i64 0, .int .i64 0, .slice none 0 0][i % 5]!) := by simp [madeCells, hi]
    rw [hr]
    simp only [List.getElem_replicate] at h0 h1 h2 h3 h4
    have hc : i % 5 = 0 ∨ i % 5 = 1 ∨ i % 5 = 2 ∨ i % 5 = 3 ∨ i % 5 = 4 := by omega
    rcases hc with hc | hc | hc | hc | hc
    · rw [show i = i / 5 * 5 by omega, h0, ← show i = i / 5 * 5 by omega, hc]; rfl
    · rw [show i = i / 5 * 5 + 1 by omega, h1, ← show i = i / 5 * 5 + 1 by omega, hc]; rfl
    · rw [show i = i / 5 * 5 + 2 by omega, h2, ← show i = i / 5 * 5 + 2 by omega, hc]; rfl
    · rw [show i = i / 5 * 5 + 3 by omega, h3, ← show i = i / 5 * 5 + 3 by omega, hc]; rfl
    · rw [show i = i / 5 * 5 + 4 by omega, h4, ← show i = i / 5 * 5 + 4 by omega, hc]; rfl
  · rw [List.getElem?_eq_none (by rw [cfCells_len]; simp; omega), List.getElem?_eq_none (by simp [madeCells]; omega)]
theorem made_false (n : Nat) : (List.replicate n false).map Value.bool = (madeCells #[.bool false] n).toList := by
  refine List.ext_getElem? fun i => ?_
  by_cases hi : i < n
  · simp [madeCells, hi, Nat.mod_one]
  · rw [List.getElem?_eq_none (by simp; omega), List.getElem?_eq_none (by simp [madeCells]; omega)]
theorem one_step' (w : World) (x y : Int) : EndsAt (w.alloc (.cells #[.int .i64 x, .int .i64 y] 132)) (some ⟨w.heap.size, 0, none⟩) [(x, y)] := by
  intro k hk
  have hk0 : k = 0 := by simpa using hk
  subst hk0
  exact ⟨_, 0, rfl, new_cell w _ _ 0 _ rfl, new_cell w _ _ 1 _ rfl⟩
/-- In the midst of a round. -/
def L23 (N : Nt) (G : Gr) (room : Int) (w wr : World) (v0 v1 : Value) (n2 bB kB : Nat) (lv : Value) (line : List Cf) (best : Int × Int → Option Wy) (cs : List ((Int × Int) × Wy)) (nv : Value) : Prop :=
  ∃ bl kl nx, FrI w wr v0 v1 n2 bB kB bl kl lv line nv nx ∧ BestR (procAll best cs).1 bl kl n2 ∧ nx.map Cf.y = (procAll best cs).2 ∧ (∀ i ∈ nx, CfR N G room i) ∧ nx.length ≤ cs.length
theorem L23.later {N : Nt} {G : Gr} {room : Int} {w wr wr' : World} {v0 v1 : Value} {n2 bB kB : Nat} {lv : Value} {line : List Cf} {best : Int × Int → Option Wy} {cs : List ((Int × Int) × Wy)} {nv : Value} (h : L23 N G room w wr v0 v1 n2 bB kB lv line best cs nv) (hb : Below wr.heap.size wr wr') : L23 N G room w wr' v0 v1 n2 bB kB lv line best cs nv := by
  obtain ⟨bl, kl, nx, h1, h2⟩ := h
  exact ⟨bl, kl, nx, h1.later hb, h2⟩
/-- Between two rounds. -/
def L1 (N : Nt) (G : Gr) (s : Int × Int) (room : Int) (w wr : World) (v0 v1 : Value) (n2 bB kB : Nat) (lv : Value) (gk : Nat) : Prop :=
  ∃ (k : Nat) (best : Int × Int → Option Wy) (bl : List Cf) (kl : List Bool) (line : List Cf), RoundI G s room k best (line.map Cf.y) ∧ FrI w wr v0 v1 n2 bB kB bl kl lv line (.slice none 0 0) [] ∧ BestR best bl kl n2 ∧ (∀ i ∈ line, CfR N G room i) ∧ line.length ≤ 2 ^ k ∧ 2 * G.n + 1 - k ≤ gk
theorem bS {w : World} (o : Obj) : Below w.heap.size w (w.alloc o) := (Below.refl _ _).alloc (Nat.le_refl _) o
theorem lastS_snoc (far : Int) (l : List (Int × Int)) (s : Int × Int) : lastS ⟨far, l ++ [s]⟩ = s := by simp [lastS]
theorem enter_room' {N : Nt} {e : Int × Int} : roomP N (enterP N e).1 (enterP N e).2.1 (enterP N e).2.2 = lenAt N e.1 := by
  unfold enterP roomP
  split
  · simp
  · simp
theorem l3enter_at (a a' : Option Addr) (N : Nt) (cap cap' k : Nat) (sd : Int) {p1 p2 p3 : Int} (w : World) (he : enterP N (k, sd) = (p1, p2, p3)) (hk : k < N.pcs.length) (hp : PcsAt w a N.pcs) :
    Calls Tryz.prog 40 #[.agg #[.slice a N.pcs.length cap, .slice a' N.jts.length cap'], .agg #[.int .i64 k, .int .i64 sd]] w fun e w' =>
    e = .returned (.agg #[.int .i64 p1, .int .i64 p2, .int .i64 p3]) ∧ Below w.heap.size w w' := by
  have h := l3enter_any a a' N cap cap' k sd w hk hp
  rw [he] at h
  exact h
theorem XB.box {W wj w7 : World} {bX : Nat} {x0 x1 x2 x3 : Int} {xv : Value} {l : List (Int × Int)} (h : XB W wj bX x0 x1 x2 x3 xv l) (hg : wj.grownBy w7 xv.ownBlock) : w7.cell? ⟨bX, 4, none⟩ = some xv ∧ w7.frozen? ⟨bX, 4, none⟩ = false := by
  have hX := cell_lt h.c0
  have hne : some bX ≠ xv.ownBlock := fun e => by have := (h.own.lt bX e.symm).1; omega
  have eB : w7.heap[bX]? = wj.heap[bX]? := hg.block bX hX hne
  exact ⟨by rw [World.cell?_of_block (a := ⟨bX, 4, none⟩) eB]; exact h.c4, by rw [World.frozen?_of_block (a := ⟨bX, 4, none⟩) eB]; exact h.f4⟩
/-- A box of five that holds nothing yet. -/
def Zero5 (w : World) (b : Nat) : Prop := (w.cell? ⟨b, 0, none⟩ = some (.int .i64 0) ∧ w.cell? ⟨b, 1, none⟩ = some (.int .i64 0) ∧ w.cell? ⟨b, 2, none⟩ = some (.int .i64 0) ∧ w.cell? ⟨b, 3, none⟩ = some (.int .i64 0) ∧ w.cell? ⟨b, 4, none⟩ = some (.slice none 0 0)) ∧ ∀ o, w.frozen? ⟨b, o, none⟩ = false
theorem Zero5.later {w w' : World} {b : Nat} (h : Zero5 w b) (hb : Below w.heap.size w w') : Zero5 w' b := by
  obtain ⟨⟨h0, h1, h2, h3, h4⟩, hf⟩ := h
  exact ⟨⟨cell_later' hb h0, cell_later' hb h1, cell_later' hb h2, cell_later' hb h3, cell_later' hb h4⟩, fun o => by rw [hb.frozen (p := ⟨b, o, none⟩) (cell_lt h0)]; exact hf o⟩
theorem Zero5.new (w : World) (T : TypeId) : Zero5 (w.alloc (.cells #[.int .i64 0, .int .i64 0, .int .i64 0, .int .i64 0, .slice none 0 0] T)) w.heap.size :=
  ⟨⟨new_cell w _ _ 0 _ rfl, new_cell w _ _ 1 _ rfl, new_cell w _ _ 2 _ rfl, new_cell w _ _ 3 _ rfl, new_cell w _ _ 4 _ rfl⟩, fun o => by simp [go_sem]⟩
theorem zero5_of {w w1 : World} {T : TypeId} (hb : Below (w.alloc (.cells #[.int .i64 0, .int .i64 0, .int .i64 0, .int .i64 0, .slice none 0 0] T)).drew.heap.size (w.alloc (.cells #[.int .i64 0, .int .i64 0, .int .i64 0, .int .i64 0, .slice none 0 0] T)).drew w1) : Zero5 w1 w.heap.size :=
  (Zero5.new w T).later (((Below.refl _ _).drew).trans hb)
theorem zero5_of' {w w1 : World} {T : TypeId} (hb : Below (w.alloc (.cells #[.int .i64 0, .int .i64 0, .int .i64 0, .int .i64 0, .slice none 0 0] T)).heap.size (w.alloc (.cells #[.int .i64 0, .int .i64 0, .int .i64 0, .int .i64 0, .slice none 0 0] T)) w1) : Zero5 w1 w.heap.size :=
  (Zero5.new w T).later hb
theorem XB.fill {W wT : World} {bX : Nat} (hb : Below W.heap.size W wT) (hlo : W.heap.size ≤ bX) (h : Zero5 wT bX) (x0 x1 x2 x3 : Int) : XB W (((((wT.setCell ⟨bX, 0, none⟩ (.int .i64 x0)).setCell ⟨bX, 1, none⟩ (.int .i64 x1)).setCell ⟨bX, 2, none⟩ (.int .i64 x2)).setCell ⟨bX, 3, none⟩ (.int .i64 x3)).setCell ⟨bX, 4, none⟩ (.slice none 0 0)) bX x0 x1 x2 x3 (.slice none 0 0) [] := by
  obtain ⟨⟨h0, h1, h2, h3, h4⟩, hf⟩ := h
  have hm : Mid bX (bX + 1) wT (((((wT.setCell ⟨bX, 0, none⟩ (.int .i64 x0)).setCell ⟨bX, 1, none⟩ (.int .i64 x1)).setCell ⟨bX, 2, none⟩ (.int .i64 x2)).setCell ⟨bX, 3, none⟩ (.int .i64 x3)).setCell ⟨bX, 4, none⟩ (.slice none 0 0)) :=
    ((((Mid.refl _ _ _).setCell (Nat.le_refl _) (by omega) _).setCell (Nat.le_refl _) (by omega) _).setCell (Nat.le_refl _) (by omega) _).setCell (Nat.le_refl _) (by omega) _ |>.setCell (Nat.le_refl _) (by omega) _
  have hl := cell_lt h0
  refine ⟨hb.trans ((hm.below (by omega)).mono hlo), hlo, ?_, ?_, ?_, ?_, ?_, ?_, World.ownsRow_nil _ _ _ _⟩
  · simp [go_sem, h0]
  · simp [go_sem, h1]
  · simp [go_sem, h2]
  · simp [go_sem, h3]
  · simp [go_sem, h4]
  · rw [World.frozen?_setCell, World.frozen?_setCell, World.frozen?_setCell, World.frozen?_setCell, World.frozen?_setCell]
    exact hf 4
theorem XB.addN {W wj w7 : World} {bX : Nat} {x0 x1 x2 x3 : Int} {xv : Value} {l : List (Int × Int)} (h : XB W wj bX x0 x1 x2 x3 xv l) (hg : wj.grownBy w7 xv.ownBlock) {n g cp : Nat} {y1 y2 : Int} (hn : l.length = n) (hown : w7.ownsRow (bX + 1) 132 2 (.slice (some ⟨g, 0, none⟩) (n + 1) cp) (n + 1) (lieCells l ++ [.int .i64 y1, .int .i64 y2])) : XB W (w7.setCell ⟨bX, 4, none⟩ (.slice (some ⟨g, 0, none⟩) (n + 1) cp)) bX x0 x1 x2 x3 (.slice (some ⟨g, 0, none⟩) (n + 1) cp) (l ++ [(y1, y2)]) := by
  subst hn
  exact h.add hg hown
theorem XB.ownN {W wj : World} {bX : Nat} {x0 x1 x2 x3 : Int} {xv : Value} {l : List (Int × Int)} (h : XB W wj bX x0 x1 x2 x3 xv l) {n : Nat} (hn : l.length = n) : wj.ownsRow (bX + 1) 132 2 xv n (lieCells l) := by
  subst hn
  exact h.own
theorem bSd (w : World) (o : Obj) : Below w.heap.size w (w.alloc o).drew := (bS o).drew
theorem bDr (w : World) : Below w.heap.size w w.drew := (Below.refl _ _).drew
/-- What is read while a way is made longer. -/
abbrev S13 (W wx : World) (bN bC bE : Nat) (v0 v1 : Value) (kq ca t2 cf ek sd : Int) : Prop :=
  (wx.cell? ⟨bN, 0, none⟩ = some v0 ∧ wx.cell? ⟨bN, 1, none⟩ = some v1 ∧ wx.cell? ⟨bC, 0, none⟩ = some (.int .i64 kq) ∧ wx.cell? ⟨bC, 1, none⟩ = some (.int .i64 ca) ∧ wx.cell? ⟨bC, 2, none⟩ = some (.int .i64 t2) ∧ wx.cell? ⟨bC, 3, none⟩ = some (.int .i64 cf) ∧ wx.cell? ⟨bE, 0, none⟩ = some (.int .i64 ek) ∧ wx.cell? ⟨bE, 1, none⟩ = some (.int .i64 sd)) ∧ Hid (Below W.heap.size W wx)
section
variable {W w2 w3 : World} {bN bC bE : Nat} {v0 v1 : Value} {kq ca t2 cf ek sd : Int}
theorem held13 (h : S13 W w2 bN bC bE v0 v1 kq ca t2 cf ek sd) : Below W.heap.size W w2 := h.2.out
theorem keep13 (hb : Below w2.heap.size w2 w3) (h : S13 W w2 bN bC bE v0 v1 kq ca t2 cf ek sd) : S13 W w3 bN bC bE v0 v1 kq ca t2 cf ek sd := by
  obtain ⟨⟨h0, h1, h2, h3, h4, h5, h6, h7⟩, hw⟩ := h
  exact ⟨⟨cell_later' hb h0, cell_later' hb h1, cell_later' hb h2, cell_later' hb h3, cell_later' hb h4, cell_later' hb h5, cell_later' hb h6, cell_later' hb h7⟩, hw.out.trans (hb.mono hw.out.size)⟩
theorem put13 {b : Nat} (hb : W.heap.size ≤ b) (hN : bN < W.heap.size) (hC : bC < W.heap.size) (hE : bE < W.heap.size) (h : S13 W w2 bN bC bE v0 v1 kq ca t2 cf ek sd) (x0 x1 x2 x3 x4 : Value) : S13 W (((((w2.setCell ⟨b, 0, none⟩ x0).setCell ⟨b, 1, none⟩ x1).setCell ⟨b, 2, none⟩ x2).setCell ⟨b, 3, none⟩ x3).setCell ⟨b, 4, none⟩ x4) bN bC bE v0 v1 kq ca t2 cf ek sd := by
  have hm : Mid b (b + 1) w2 (((((w2.setCell ⟨b, 0, none⟩ x0).setCell ⟨b, 1, none⟩ x1).setCell ⟨b, 2, none⟩ x2).setCell ⟨b, 3, none⟩ x3).setCell ⟨b, 4, none⟩ x4) :=
    ((((Mid.refl _ _ _).setCell (Nat.le_refl _) (by omega) _).setCell (Nat.le_refl _) (by omega) _).setCell (Nat.le_refl _) (by omega) _).setCell (Nat.le_refl _) (by omega) _ |>.setCell (Nat.le_refl _) (by omega) _
  obtain ⟨⟨h0, h1, h2, h3, h4, h5, h6, h7⟩, hw⟩ := h
  have hbl : ∀ c o u, c < W.heap.size → w2.cell? ⟨c, o, none⟩ = some u → (((((w2.setCell ⟨b, 0, none⟩ x0).setCell ⟨b, 1, none⟩ x1).setCell ⟨b, 2, none⟩ x2).setCell ⟨b, 3, none⟩ x3).setCell ⟨b, 4, none⟩ x4).cell? ⟨c, o, none⟩ = some u := fun c o u hc h => hm.cell (.inl (by omega)) h
  refine ⟨⟨hbl _ _ _ hN h0, hbl _ _ _ hN h1, hbl _ _ _ hC h2, hbl _ _ _ hC h3, hbl _ _ _ hC h4, hbl _ _ _ hC h5, hbl _ _ _ hE h6, hbl _ _ _ hE h7⟩, ?_⟩
  exact ((((hw.out.setCell hb _).setCell hb _).setCell hb _).setCell hb _).setCell hb _
end
theorem steps_of_own3 {w : World} {base g n cp : Nat} {l : List (Int × Int)} (h : w.ownsRow base 132 2 (.slice (some ⟨g, 0, none⟩) n cp) l.length (lieCells l)) : StRow w (some ⟨g, 0, none⟩) l := by
  obtain ⟨z, zc, e, hS⟩ := steps_of_own h
  have : z = some ⟨g, 0, none⟩ := by simp at e; exact e.1.symm
  rw [this] at hS
  exact hS
/-- One candidate more, which is put. -/
theorem L23_put {N : Nt} {G : Gr} {room : Int} {w w24 : World} {v0 v1 lv nv' : Value} {n2 bB kB p : Nat} {line bl nx : List Cf} {kl : List Bool} {best : Int × Int → Option Wy} {cs : List ((Int × Int) × Wy)} {c : (Int × Int) × Wy} {x : Cf} (hF : FrI w w24 v0 v1 n2 bB kB (bl.set p x) (kl.set p true) lv line nv' (nx ++ [x])) (hB : BestR (procAll best cs).1 bl kl n2) (hN : nx.map Cf.y = (procAll best cs).2) (hC : ∀ i ∈ nx, CfR N G room i) (hL : nx.length ≤ cs.length) (hp : p < n2) (hl : bl.length = n2 ∧ kl.length = n2) (hx : CfR N G room x) (hc1 : c.1 = stepAt p) (hc2 : c.2 = x.y) (hput : ∀ b, (procAll best cs).1 (stepAt p) = some b → lessW x.y b = true) : L23 N G room w w24 v0 v1 n2 bB kB lv line best (cs ++ [c]) nv' := by
  have e : procAll best (cs ++ [c]) = (fun t => if t = c.1 then some c.2 else (procAll best cs).1 t, (procAll best cs).2 ++ [c.2]) := by
    rw [procAll_snoc]
    exact procX_put (by rw [hc1, hc2]; exact hput)
  refine ⟨_, _, _, hF, ?_, ?_, ?_, ?_⟩
  · rw [e, hc1, hc2]
    exact hB.put hp hl.1 hl.2 x
  · rw [e, List.map_append, hN, hc2]
    rfl
  · intro i hi
    rcases List.mem_append.1 hi with hi | hi
    · exact hC i hi
    · rw [List.mem_singleton.1 hi]; exact hx
  · simp
    exact hL
/-- One candidate more, which is not. -/
theorem L23_not {N : Nt} {G : Gr} {room : Int} {w w24 : World} {v0 v1 lv nv' : Value} {n2 bB kB : Nat} {line bl nx : List Cf} {kl : List Bool} {best : Int × Int → Option Wy} {cs : List ((Int × Int) × Wy)} {c : (Int × Int) × Wy} {b : Wy} (hF : FrI w w24 v0 v1 n2 bB kB bl kl lv line nv' nx) (hB : BestR (procAll best cs).1 bl kl n2) (hN : nx.map Cf.y = (procAll best cs).2) (hC : ∀ i ∈ nx, CfR N G room i) (hL : nx.length ≤ cs.length) (hb : (procAll best cs).1 c.1 = some b) (hl : lessW c.2 b = false) : L23 N G room w w24 v0 v1 n2 bB kB lv line best (cs ++ [c]) nv' := by
  have e : procAll best (cs ++ [c]) = procAll best cs := by
    rw [procAll_snoc]
    exact procX_not hb hl
  refine ⟨_, _, _, hF, by rw [e]; exact hB, by rw [e]; exact hN, hC, ?_⟩
  simp
  omega
theorem cands_take {G : Gr} {room : Int} {y : Wy} {t : Int × Int} {L : List (Int × Int)} (h : G.nx (headP t.1 t.2) = L) {i : Nat} (hi : i < L.length) : (candsOf G room y t).take (i + 1) = (candsOf G room y t).take i ++ [(stepOf L[i], extW G room y t L[i])] := by
  subst h
  unfold candsOf
  rw [List.take_succ_eq_append_getElem (by simpa using hi)]
  simp
theorem cands_all {G : Gr} {room : Int} {y : Wy} {t : Int × Int} {L : List (Int × Int)} (h : G.nx (headP t.1 t.2) = L) : (candsOf G room y t).take L.length = candsOf G room y t := by
  subst h
  exact List.take_of_length_le (by simp [candsOf])
end Go.Proofs.YtijdigdcmjdooaaGreat

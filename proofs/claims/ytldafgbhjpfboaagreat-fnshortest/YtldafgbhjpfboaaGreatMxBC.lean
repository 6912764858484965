/- spec.l4from: rounds, and what becomes of them. Own work. -/
import Derived.Test.YtldafgbhjpfboaaGreatMxBA
import Derived.Test.YtldafgbhjpfboaaGreatMxBB
import Derived.Test.YtldafgbhjpfboaaGreatWsB
namespace Go.Proofs.YtldafgbhjpfboaaGreat
open Go.RowKit Go.Sort
set_option maxHeartbeats 8000000
set_option maxRecDepth 100000

theorem infoBool : (Tryz.prog.info? 4).map (fun i => (i.zero, i.size, i.bytes)) = some (some (.bool false), 1, 1) := by kernel_rfl
theorem made_zero (n : Nat) : cfCells (List.replicate n c0) = (madeCells #[.int .i64 0, .int .i64 0, .int .i64 0, .int .i64 0, .slice none 0 0] (n * 5)).toList := by
  refine List.ext_getElem? fun i => ?_
  by_cases hi : i < n * 5
  · have hk : i / 5 < (List.replicate n c0).length := by simp; omega
    obtain ⟨h0, h1, h2, h3, h4⟩ := cfCells_at (List.replicate n c0) (i / 5) hk
    have hr : (madeCells #[.int .i64 0, .int .i64 0, .int .i64 0, .int .i64 0, .slice none 0 0] (n * 5)).toList[i]? = some (#[.int .i64 0, .int .i64 0, .int .i64 0, .int .i64 0, .slice none 0 0][i % 5]!) := by simp [madeCells, hi]
    rw [hr]
    simp only [List.getElem_replicate] at h0 h1 h2 h3 h4
    have hc : i % 5 = 0 ∨ i % 5 = 1 ∨ i % 5 = 2 ∨ i % 5 = 3 ∨ i % 5 = 4 := by omega
    rcases hc with hc | hc | hc | hc | hc
    · rw [show i = i / 5 * 5 by omega, h0, ← show i = i / 5 * 5 by omega, hc]; rfl
    · rw [show i = i / 5 * 5 + 1 by omega, h1, ← show i = i / 5 * 5 + 1 by omega, hc]; rfl
    · rw [show i = i / 5 * 5 + 2 by omega, h2, ← show i = i / 5 * 5 + 2 by omega, hc]; rfl
    · rw [show i = i / 5 * 5 + 3 by omega, h3, ← show i = i / 5 * 5 + 3 by omega, hc]; rfl
    · rw [show i = i / 5 * 5 + 4 by omega, h4, ← show i = i / 5 * 5 + 4 by omega, hc]; rfl
  · rw [List.getElem?_eq_none (by rw [cfCells_len]; simp; omega), List.getElem?_eq_none (by simp [madeCells]; omega)]
theorem made_false (n : Nat) : (List.replicate n false).map Value.bool = (madeCells #[.bool false] n).toList := by
  refine List.ext_getElem? fun i => ?_
  by_cases hi : i < n
  · simp [madeCells, hi, Nat.mod_one]
  · rw [List.getElem?_eq_none (by simp; omega), List.getElem?_eq_none (by simp [madeCells]; omega)]
theorem one_step' (w : World) (x y : Int) : EndsAt (w.alloc (.cells #[.int .i64 x, .int .i64 y] 37)) (some ⟨w.heap.size, 0, none⟩) [(x, y)] := by
  intro k hk
  have hk0 : k = 0 := by simpa using hk
  subst hk0
  exact ⟨_, 0, rfl, new_cell w _ _ 0 _ rfl, new_cell w _ _ 1 _ rfl⟩
/-- In the midst of a round. -/
def L23 (N : Nt) (G : Gr) (room : Int) (w wr : World) (v0 v1 : Value) (n2 bB kB : Nat) (lv : Value) (line : List Cf) (best : Int × Int → Option Wy) (cs : List ((Int × Int) × Wy)) (nv : Value) : Prop :=
  ∃ bl kl nx, FrI w wr v0 v1 n2 bB kB bl kl lv line nv nx ∧ BestR (procAll best cs).1 bl kl n2 ∧ nx.map Cf.y = (procAll best cs).2 ∧ (∀ i ∈ nx, CfR N G room i) ∧ nx.length ≤ cs.length
theorem L23.later {N : Nt} {G : Gr} {room : Int} {w wr wr' : World} {v0 v1 : Value} {n2 bB kB : Nat} {lv : Value} {line : List Cf} {best : Int × Int → Option Wy} {cs : List ((Int × Int) × Wy)} {nv : Value} (h : L23 N G room w wr v0 v1 n2 bB kB lv line best cs nv) (hb : Below wr.heap.size wr wr') : L23 N G room w wr' v0 v1 n2 bB kB lv line best cs nv := by
  obtain ⟨bl, kl, nx, h1, h2⟩ := h
  exact ⟨bl, kl, nx, h1.later hb, h2⟩
/-- Between two rounds. -/
def L1 (N : Nt) (G : Gr) (s : Int × Int) (room : Int) (w wr : World) (v0 v1 : Value) (n2 bB kB : Nat) (lv : Value) (gk : Nat) : Prop :=
  ∃ (k : Nat) (best : Int × Int → Option Wy) (bl : List Cf) (kl : List Bool) (line : List Cf), RoundI G s room k best (line.map Cf.y) ∧ FrI w wr v0 v1 n2 bB kB bl kl lv line (.slice none 0 0) [] ∧ BestR best bl kl n2 ∧ (∀ i ∈ line, CfR N G room i) ∧ line.length ≤ 2 ^ k ∧ 2 * G.n + 1 - k ≤ gk
theorem bS {w : World} (o : Obj) : Below w.heap.size w (w.alloc o) := (Below.refl _ _).alloc (Nat.le_refl _) o
theorem lastS_snoc (far : Int) (l : List (Int × Int)) (s : Int × Int) : lastS ⟨far, l ++ [s]⟩ = s := by simp [lastS]
theorem enter_room' {N : Nt} {e : Int × Int} : roomP N (enterP N e).1 (enterP N e).2.1 (enterP N e).2.2 = lenAt N e.1 := by
  unfold enterP roomP
  split
  · simp
  · simp
theorem l3enter_at (a a' : Option Addr) (N : Nt) (cap cap' k : Nat) (sd : Int) {p1 p2 p3 : Int} (w : World) (he : enterP N (k, sd) = (p1, p2, p3)) (hk : k < N.pcs.length) (hp : PcsAt w a N.pcs) :
    Calls Tryz.prog 37 #[.agg #[.slice a N.pcs.length cap, .slice a' N.jts.length cap'], .agg #[.int .i64 k, .int .i64 sd]] w fun e w' =>
    e = .returned (.agg #[.int .i64 p1, .int .i64 p2, .int .i64 p3]) ∧ Below w.heap.size w w' := by
  have h := l3enter_any a a' N cap cap' k sd w hk hp
  rw [he] at h
  exact h
theorem XB.box {W wj w7 : World} {bX : Nat} {x0 x1 x2 x3 : Int} {xv : Value} {l : List (Int × Int)} (h : XB W wj bX x0 x1 x2 x3 xv l) (hg : wj.grownBy w7 xv.ownBlock) : w7.cell? ⟨bX, 4, none⟩ = some xv ∧ w7.frozen? ⟨bX, 4, none⟩ = false := by
  have hX := cell_lt h.c0
  have hne : some bX ≠ xv.ownBlock := fun e => by have := (h.own.lt bX e.symm).1; omega
  have eB : w7.heap[bX]? = wj.heap[bX]? := hg.block bX hX hne
  exact ⟨by rw [World.cell?_of_block (a := ⟨bX, 4, none⟩) eB]; exact h.c4, by rw [World.frozen?_of_block (a := ⟨bX, 4, none⟩) eB]; exact h.f4⟩
/-- A box of five that holds nothing yet. -/
def Zero5 (w : World) (b : Nat) : Prop := (w.cell? ⟨b, 0, none⟩ = some (.int .i64 0) ∧ w.cell? ⟨b, 1, none⟩ = some (.int .i64 0) ∧ w.cell? ⟨b, 2, none⟩ = some (.int .i64 0) ∧ w.cell? ⟨b, 3, none⟩ = some (.int .i64 0) ∧ w.cell? ⟨b, 4, none⟩ = some (.slice none 0 0)) ∧ ∀ o, w.frozen? ⟨b, o, none⟩ = false
theorem Zero5.later {w w' : World} {b : Nat} (h : Zero5 w b) (hb : Below w.heap.size w w') : Zero5 w' b := by
  obtain ⟨⟨h0, h1, h2, h3, h4⟩, hf⟩ := h
  exact ⟨⟨cell_later' hb h0, cell_later' hb h1, cell_later' hb h2, cell_later' hb h3, cell_later' hb h4⟩, fun o => by rw [hb.frozen (p := ⟨b, o, none⟩) (cell_lt h0)]; exact hf o⟩
theorem Zero5.new (w : World) (T : TypeId) : Zero5 (w.alloc (.cells #[.int .i64 0, .int .i64 0, .int .i64 0, .int .i64 0, .slice none 0 0] T)) w.heap.size :=
  ⟨⟨new_cell w _ _ 0 _ rfl, new_cell w _ _ 1 _ rfl, new_cell w _ _ 2 _ rfl, new_cell w _ _ 3 _ rfl, new_cell w _ _ 4 _ rfl⟩, fun o => by simp [go_sem]⟩
theorem zero5_of {w w1 : World} {T : TypeId} (hb : Below (w.alloc (.cells #[.int .i64 0, .int .i64 0, .int .i64 0, .int .i64 0, .slice none 0 0] T)).drew.heap.size (w.alloc (.cells #[.int .i64 0, .int .i64 0, .int .i64 0, .int .i64 0, .slice none 0 0] T)).drew w1) : Zero5 w1 w.heap.size :=
  (Zero5.new w T).later (((Below.refl _ _).drew).trans hb)
theorem zero5_of' {w w1 : World} {T : TypeId} (hb : Below (w.alloc (.cells #[.int .i64 0, .int .i64 0, .int .i64 0, .int .i64 0, .slice none 0 0] T)).heap.size (w.alloc (.cells #[.int .i64 0, .int .i64 0, .int .i64 0, .int .i64 0, .slice none 0 0] T)) w1) : Zero5 w1 w.heap.size :=
  (Zero5.new w T).later hb
theorem XB.fill {W wT : World} {bX : Nat} (hb : Below W.heap.size W wT) (hlo : W.heap.size ≤ bX) (h : Zero5 wT bX) (x0 x1 x2 x3 : Int) : XB W (((((wT.setCell ⟨bX, 0, none⟩ (.int .i64 x0)).setCell ⟨bX, 1, none⟩ (.int .i64 x1)).setCell ⟨bX, 2, none⟩ (.int .i64 x2)).setCell ⟨bX, 3, none⟩ (.int .i64 x3)).setCell ⟨bX, 4, none⟩ (.slice none 0 0)) bX x0 x1 x2 x3 (.slice none 0 0) [] := by
  obtain ⟨⟨h0, h1, h2, h3, h4⟩, hf⟩ := h
  have hm : Mid bX (bX + 1) wT (((((wT.setCell ⟨bX, 0, none⟩ (.int .i64 x0)).setCell ⟨bX, 1, none⟩ (.int .i64 x1)).setCell ⟨bX, 2, none⟩ (.int .i64 x2)).setCell ⟨bX, 3, none⟩ (.int .i64 x3)).setCell ⟨bX, 4, none⟩ (.slice none 0 0)) :=
    ((((Mid.refl _ _ _).setCell (Nat.le_refl _) (by omega) _).setCell (Nat.le_refl _) (by omega) _).setCell (Nat.le_refl _) (by omega) _).setCell (Nat.le_refl _) (by omega) _ |>.setCell (Nat.le_refl _) (by omega) _
  have hl := cell_lt h0
  refine ⟨hb.trans ((hm.below (by omega)).mono hlo), hlo, ?_, ?_, ?_, ?_, ?_, ?_, World.ownsRow_nil _ _ _ _⟩
  · simp [go_sem, h0]
  · simp [go_sem, h1]
  · simp [go_sem, h2]
  · simp [go_sem, h3]
  · simp [go_sem, h4]
  · rw [World.frozen?_setCell, World.frozen?_setCell, World.frozen?_setCell, World.frozen?_setCell, World.frozen?_setCell]
    exact hf 4
theorem XB.addN {W wj w7 : World} {bX : Nat} {x0 x1 x2 x3 : Int} {xv : Value} {l : List (Int × Int)} (h : XB W wj bX x0 x1 x2 x3 xv l) (hg : wj.grownBy w7 xv.ownBlock) {n g cp : Nat} {y1 y2 : Int} (hn : l.length = n) (hown : w7.ownsRow (bX + 1) 37 2 (.slice (some ⟨g, 0, none⟩) (n + 1) cp) (n + 1) (lieCells l ++ [.int .i64 y1, .int .i64 y2])) : XB W (w7.setCell ⟨bX, 4, none⟩ (.slice (some ⟨g, 0, none⟩) (n + 1) cp)) bX x0 x1 x2 x3 (.slice (some ⟨g, 0, none⟩) (n + 1) cp) (l ++ [(y1, y2)]) := by
  subst hn
  exact h.add hg hown
theorem XB.ownN {W wj : World} {bX : Nat} {x0 x1 x2 x3 : Int} {xv : Value} {l : List (Int × Int)} (h : XB W wj bX x0 x1 x2 x3 xv l) {n : Nat} (hn : l.length = n) : wj.ownsRow (bX + 1) 37 2 xv n (lieCells l) := by
  subst hn
  exact h.own
theorem bSd (w : World) (o : Obj) : Below w.heap.size w (w.alloc o).drew := (bS o).drew
theorem bDr (w : World) : Below w.heap.size w w.drew := (Below.refl _ _).drew
/-- What is read while a way is made longer. -/
abbrev S13 (W wx : World) (bN bC bE : Nat) (v0 v1 : Value) (kq ca t2 cf ek sd : Int) : Prop :=
  (wx.cell? ⟨bN, 0, none⟩ = some v0 ∧ wx.cell? ⟨bN, 1, none⟩ = some v1 ∧ wx.cell? ⟨bC, 0, none⟩ = some (.int .i64 kq) ∧ wx.cell? ⟨bC, 1, none⟩ = some (.int .i64 ca) ∧ wx.cell? ⟨bC, 2, none⟩ = some (.int .i64 t2) ∧ wx.cell? ⟨bC, 3, none⟩ = some (.int .i64 cf) ∧ wx.cell? ⟨bE, 0, none⟩ = some (.int .i64 ek) ∧ wx.cell? ⟨bE, 1, none⟩ = some (.int .i64 sd)) ∧ Hid (Below W.heap.size W wx)
section
variable {W w2 w3 : World} {bN bC bE : Nat} {v0 v1 : Value} {kq ca t2 cf ek sd : Int}
theorem held13 (h : S13 W w2 bN bC bE v0 v1 kq ca t2 cf ek sd) : Below W.heap.size W w2 := h.2.out
theorem keep13 (hb : Below w2.heap.size w2 w3) (h : S13 W w2 bN bC bE v0 v1 kq ca t2 cf ek sd) : S13 W w3 bN bC bE v0 v1 kq ca t2 cf ek sd := by
  obtain ⟨⟨h0, h1, h2, h3, h4, h5, h6, h7⟩, hw⟩ := h
  exact ⟨⟨cell_later' hb h0, cell_later' hb h1, cell_later' hb h2, cell_later' hb h3, cell_later' hb h4, cell_later' hb h5, cell_later' hb h6, cell_later' hb h7⟩, hw.out.trans (hb.mono hw.out.size)⟩
theorem put13 {b : Nat} (hb : W.heap.size ≤ b) (hN : bN < W.heap.size) (hC : bC < W.heap.size) (hE : bE < W.heap.size) (h : S13 W w2 bN bC bE v0 v1 kq ca t2 cf ek sd) (x0 x1 x2 x3 x4 : Value) : S13 W (((((w2.setCell ⟨b, 0, none⟩ x0).setCell ⟨b, 1, none⟩ x1).setCell ⟨b, 2, none⟩ x2).setCell ⟨b, 3, none⟩ x3).setCell ⟨b, 4, none⟩ x4) bN bC bE v0 v1 kq ca t2 cf ek sd := by
  have hm : Mid b (b + 1) w2 (((((w2.setCell ⟨b, 0, none⟩ x0).setCell ⟨b, 1, none⟩ x1).setCell ⟨b, 2, none⟩ x2).setCell ⟨b, 3, none⟩ x3).setCell ⟨b, 4, none⟩ x4) :=
    ((((Mid.refl _ _ _).setCell (Nat.le_refl _) (by omega) _).setCell (Nat.le_refl _) (by omega) _).setCell (Nat.le_refl _) (by omega) _).setCell (Nat.le_refl _) (by omega) _ |>.setCell (Nat.le_refl _) (by omega) _
  obtain ⟨⟨h0, h1, h2, h3, h4, h5, h6, h7⟩, hw⟩ := h
  have hbl : ∀ c o u, c < W.heap.size → w2.cell? ⟨c, o, none⟩ = some u → (((((w2.setCell ⟨b, 0, none⟩ x0).setCell ⟨b, 1, none⟩ x1).setCell ⟨b, 2, none⟩ x2).setCell ⟨b, 3, none⟩ x3).setCell ⟨b, 4, none⟩ x4).cell? ⟨c, o, none⟩ = some u := fun c o u hc h => hm.cell (.inl (by omega)) h
  refine ⟨⟨hbl _ _ _ hN h0, hbl _ _ _ hN h1, hbl _ _ _ hC h2, hbl _ _ _ hC h3, hbl _ _ _ hC h4, hbl _ _ _ hC h5, hbl _ _ _ hE h6, hbl _ _ _ hE h7⟩, ?_⟩
  exact ((((hw.out.setCell hb _).setCell hb _).setCell hb _).setCell hb _).setCell hb _
end
theorem steps_of_own3 {w : World} {base g n cp : Nat} {l : List (Int × Int)} (h : w.ownsRow base 37 2 (.slice (some ⟨g, 0, none⟩) n cp) l.length (lieCells l)) : StRow w (some ⟨g, 0, none⟩) l := by
  obtain ⟨z, zc, e, hS⟩ := steps_of_own h
  have : z = some ⟨g, 0, none⟩ := by simp at e; exact e.1.symm
  rw [this] at hS
  exact hS
/-- One candidate more, which is put. -/
theorem L23_put {N : Nt} {G : Gr} {room : Int} {w w24 : World} {v0 v1 lv nv' : Value} {n2 bB kB p : Nat} {line bl nx : List Cf} {kl : List Bool} {best : Int × Int → Option Wy} {cs : List ((Int × Int) × Wy)} {c : (Int × Int) × Wy} {x : Cf} (hF : FrI w w24 v0 v1 n2 bB kB (bl.set p x) (kl.set p true) lv line nv' (nx ++ [x])) (hB : BestR (procAll best cs).1 bl kl n2) (hN : nx.map Cf.y = (procAll best cs).2) (hC : ∀ i ∈ nx, CfR N G room i) (hL : nx.length ≤ cs.length) (hp : p < n2) (hl : bl.length = n2 ∧ kl.length = n2) (hx : CfR N G room x) (hc1 : c.1 = stepAt p) (hc2 : c.2 = x.y) (hput : ∀ b, (procAll best cs).1 (stepAt p) = some b → lessW x.y b = true) : L23 N G room w w24 v0 v1 n2 bB kB lv line best (cs ++ [c]) nv' := by
  have e : procAll best (cs ++ [c]) = (fun t => if t = c.1 then some c.2 else (procAll best cs).1 t, (procAll best cs).2 ++ [c.2]) := by
    rw [procAll_snoc]
    exact procX_put (by rw [hc1, hc2]; exact hput)
  refine ⟨_, _, _, hF, ?_, ?_, ?_, ?_⟩
  · rw [e, hc1, hc2]
    exact hB.put hp hl.1 hl.2 x
  · rw [e, List.map_append, hN, hc2]
    rfl
  · intro i hi
    rcases List.mem_append.1 hi with hi | hi
    · exact hC i hi
    · rw [List.mem_singleton.1 hi]; exact hx
  · simp
    exact hL
/-- One candidate more, which is not. -/
theorem L23_not {N : Nt} {G : Gr} {room : Int} {w w24 : World} {v0 v1 lv nv' : Value} {n2 bB kB : Nat} {line bl nx : List Cf} {kl : List Bool} {best : Int × Int → Option Wy} {cs : List ((Int × Int) × Wy)} {c : (Int × Int) × Wy} {b : Wy} (hF : FrI w w24 v0 v1 n2 bB kB bl kl lv line nv' nx) (hB : BestR (procAll best cs).1 bl kl n2) (hN : nx.map Cf.y = (procAll best cs).2) (hC : ∀ i ∈ nx, CfR N G room i) (hL : nx.length ≤ cs.length) (hb : (procAll best cs).1 c.1 = some b) (hl : lessW c.2 b = false) : L23 N G room w w24 v0 v1 n2 bB kB lv line best (cs ++ [c]) nv' := by
  have e : procAll best (cs ++ [c]) = procAll best cs := by
    rw [procAll_snoc]
    exact procX_not hb hl
  refine ⟨_, _, _, hF, by rw [e]; exact hB, by rw [e]; exact hN, hC, ?_⟩
  simp
  omega
theorem cands_take {G : Gr} {room : Int} {y : Wy} {t : Int × Int} {L : List (Int × Int)} (h : G.nx (headP t.1 t.2) = L) {i : Nat} (hi : i < L.length) : (candsOf G room y t).take (i + 1) = (candsOf G room y t).take i ++ [(stepOf L[i], extW G room y t L[i])] := by
  subst h
  unfold candsOf
  rw [List.take_succ_eq_append_getElem (by simpa using hi)]
  simp
theorem cands_all {G : Gr} {room : Int} {y : Wy} {t : Int × Int} {L : List (Int × Int)} (h : G.nx (headP t.1 t.2) = L) : (candsOf G room y t).take L.length = candsOf G room y t := by
  subst h
  exact List.take_of_length_le (by simp [candsOf])
end Go.Proofs.YtldafgbhjpfboaaGreat

/- A way's box; l4path; written by gen_shd.py. Own work. -/
namespace Go.Proofs.YtldafgbhjpfboaaGreat
open Go.RowKit Go.Sort
set_option maxHeartbeats 8000000
set_option maxRecDepth 100000

/-- A way's box. -/
def BoxC (w : World) (b : Nat) (x0 x1 x2 x3 : Int) (sv : Value) : Prop := (w.cell? ⟨b, 0, none⟩ = some (.int .i64 x0) ∧ w.cell? ⟨b, 1, none⟩ = some (.int .i64 x1) ∧ w.cell? ⟨b, 2, none⟩ = some (.int .i64 x2) ∧ w.cell? ⟨b, 3, none⟩ = some (.int .i64 x3) ∧ w.cell? ⟨b, 4, none⟩ = some sv) ∧ (∀ o, w.frozen? ⟨b, o, none⟩ = false) ∧ ∀ cur fz, w.heap[b]? ≠ some (.cells cur 37 fz)
theorem BoxC.later {w w' : World} {b : Nat} {x0 x1 x2 x3 : Int} {sv : Value} (h : BoxC w b x0 x1 x2 x3 sv) (hb : Below w.heap.size w w') : BoxC w' b x0 x1 x2 x3 sv := by
  obtain ⟨⟨h0, h1, h2, h3, h4⟩, hf, hT⟩ := h
  exact ⟨⟨cell_later' hb h0, cell_later' hb h1, cell_later' hb h2, cell_later' hb h3, cell_later' hb h4⟩, fun o => by rw [hb.frozen (p := ⟨b, o, none⟩) (cell_lt h0)]; exact hf o, fun cur fz => by rw [hb.block b (cell_lt h0)]; exact hT cur fz⟩
theorem BoxC.new (w : World) (x0 x1 x2 x3 : Int) (sv : Value) : BoxC (w.alloc (.cells #[.int .i64 x0, .int .i64 x1, .int .i64 x2, .int .i64 x3, sv] 71)) w.heap.size x0 x1 x2 x3 sv := by
  refine ⟨⟨new_cell w _ _ 0 _ rfl, new_cell w _ _ 1 _ rfl, new_cell w _ _ 2 _ rfl, new_cell w _ _ 3 _ rfl, new_cell w _ _ 4 _ rfl⟩, fun o => by simp [go_sem], fun cur fz e => ?_⟩
  rw [heap_alloc_new] at e
  simp at e
theorem BoxC.mid {w w' : World} {b g : Nat} {x0 x1 x2 x3 : Int} {sv : Value} (h : BoxC w b x0 x1 x2 x3 sv) (hm : Mid g (g + 1) w w') (hne : b ≠ g) : BoxC w' b x0 x1 x2 x3 sv := by
  have hl := cell_lt h.1.1
  have e : w'.heap[b]? = w.heap[b]? := hm.block b hl (by omega)
  obtain ⟨⟨h0, h1, h2, h3, h4⟩, hf, hT⟩ := h
  exact ⟨⟨hm.cell (by omega) h0, hm.cell (by omega) h1, hm.cell (by omega) h2, hm.cell (by omega) h3, hm.cell (by omega) h4⟩, fun o => by rw [World.frozen?_of_block (a := ⟨b, o, none⟩) e]; exact hf o, fun cur fz => by rw [e]; exact hT cur fz⟩
theorem ZeroP.mid {w w' : World} {b g : Nat} (h : ZeroP w b) (hm : Mid g (g + 1) w w') (hne : b ≠ g) : ZeroP w' b := by
  have hl := cell_lt h.1.1
  have e : w'.heap[b]? = w.heap[b]? := hm.block b hl (by omega)
  obtain ⟨⟨h0, h1, h2, h3⟩, hf, hT⟩ := h
  exact ⟨⟨hm.cell (by omega) h0, hm.cell (by omega) h1, hm.cell (by omega) h2, hm.cell (by omega) h3⟩, fun o => by rw [World.frozen?_of_block (a := ⟨b, o, none⟩) e]; exact hf o, fun cur fz => by rw [e]; exact hT cur fz⟩
abbrev put5 (w : World) (b : Nat) (x0 x1 x2 x3 x4 : Value) : World := ((((w.setCell ⟨b, 0, none⟩ x0).setCell ⟨b, 1, none⟩ x1).setCell ⟨b, 2, none⟩ x2).setCell ⟨b, 3, none⟩ x3).setCell ⟨b, 4, none⟩ x4
theorem mid5 (w : World) (b : Nat) (x0 x1 x2 x3 x4 : Value) : Mid b (b + 1) w (put5 w b x0 x1 x2 x3 x4) :=
  (((((Mid.refl _ _ _).setCell (Nat.le_refl _) (by omega) _).setCell (Nat.le_refl _) (by omega) _).setCell (Nat.le_refl _) (by omega) _).setCell (Nat.le_refl _) (by omega) _).setCell (Nat.le_refl _) (by omega) _
theorem below5 {W w : World} {b : Nat} (h : Below W.heap.size W w) (hb : W.heap.size ≤ b) (x0 x1 x2 x3 x4 : Value) : Below W.heap.size W (put5 w b x0 x1 x2 x3 x4) :=
  ((((h.setCell hb x0).setCell hb x1).setCell hb x2).setCell hb x3).setCell hb x4
theorem BoxC.put {w : World} {b : Nat} {x0 x1 x2 x3 : Int} {sv : Value} (h : BoxC w b x0 x1 x2 x3 sv) (y0 y1 y2 y3 : Int) (su : Value) : BoxC (put5 w b (.int .i64 y0) (.int .i64 y1) (.int .i64 y2) (.int .i64 y3) su) b y0 y1 y2 y3 su := by
  obtain ⟨⟨h0, h1, h2, h3, h4⟩, hf, hT⟩ := h
  refine ⟨⟨by simp [go_sem, h0], by simp [go_sem, h1], by simp [go_sem, h2], by simp [go_sem, h3], by simp [go_sem, h4]⟩, fun o => ?_, set_obj (set_obj (set_obj (set_obj (set_obj hT))))⟩
  rw [World.frozen?_setCell, World.frozen?_setCell, World.frozen?_setCell, World.frozen?_setCell, World.frozen?_setCell]
  exact hf o
theorem BoxC.put3 {w : World} {b : Nat} {x0 x1 x2 x3 : Int} {sv : Value} (h : BoxC w b x0 x1 x2 x3 sv) (y3 : Int) : BoxC (w.setCell ⟨b, 3, none⟩ (.int .i64 y3)) b x0 x1 x2 y3 sv := by
  obtain ⟨⟨h0, h1, h2, h3, h4⟩, hf, hT⟩ := h
  refine ⟨⟨by simp [go_sem, h0], by simp [go_sem, h1], by simp [go_sem, h2], by simp [go_sem, h3], by simp [go_sem, h4]⟩, fun o => ?_, set_obj hT⟩
  rw [World.frozen?_setCell]
  exact hf o
theorem l4path_any (a a' z : Option Addr) (N : Nt) (cap cap' c : Nat) (x0 x1 x2 far : Int) (ss : List (Int × Int)) (w : World) (hn : N.pcs.length ≤ 1048576) (hl : N.jts.length ≤ 1048576) (hm : ∀ j ∈ N.jts, j.ends.length ≤ 1048576) (hright : netOk N = (0, 0)) (hsteps : stepsP N ss = true) (hj : JtsAt w a' N.jts) (hz : StRow w z ss) :
    Calls Tryz.prog 29 #[.agg #[.slice a N.pcs.length cap, .slice a' N.jts.length cap'], .agg #[.int .i64 x0, .int .i64 x1, .int .i64 x2, .int .i64 far, .slice z ss.length c]] w fun e w' =>
    ∃ zl cl, e = .returned (.agg #[.bool true, .int .i64 far, .slice z ss.length c, .slice zl ((liesQ N ss).getD []).length cl]) ∧ EndsAt w' zl ((liesQ N ss).getD []) ∧ (∀ b o, zl = some ⟨b, o, none⟩ → w.heap.size ≤ b) ∧ ((liesQ N ss).getD []).length ≤ 400 ∧ Below w.heap.size w w' := by
  have HJ := hide hj
  have HM := hide hm
  have HZ := hide hz
  have HST := hide hsteps
  have hB3 : Below w.heap.size w (((w.alloc (.cells #[.slice a N.pcs.length cap, .slice a' N.jts.length cap'] 26)).alloc (.cells #[.int .i64 x0, .int .i64 x1, .int .i64 x2, .int .i64 far, .slice z ss.length c] 71)).alloc (.cells #[.bool false, .int .i64 0, .slice none 0 0, .slice none 0 0] 34)) := ((((Below.refl _ _).alloc (Nat.le_refl _) _).alloc (by simp) _).alloc (by simp; omega) _)
  have HB3 := hide hB3
  have HZ3 : Hid (ZeroP (((w.alloc (.cells #[.slice a N.pcs.length cap, .slice a' N.jts.length cap'] 26)).alloc (.cells #[.int .i64 x0, .int .i64 x1, .int .i64 x2, .int .i64 far, .slice z ss.length c] 71)).alloc (.cells #[.bool false, .int .i64 0, .slice none 0 0, .slice none 0 0] 34)) (w.heap.size + 1 + 1)) := by
    show ZeroP _ _
    have h := ZeroP.new ((w.alloc (.cells #[.slice a N.pcs.length cap, .slice a' N.jts.length cap'] 26)).alloc (.cells #[.int .i64 x0, .int .i64 x1, .int .i64 x2, .int .i64 far, .slice z ss.length c] 71))
    simpa only [World.size_alloc] using h
  have n0 : (((w.alloc (.cells #[.slice a N.pcs.length cap, .slice a' N.jts.length cap'] 26)).alloc (.cells #[.int .i64 x0, .int .i64 x1, .int .i64 x2, .int .i64 far, .slice z ss.length c] 71)).alloc (.cells #[.bool false, .int .i64 0, .slice none 0 0, .slice none 0 0] 34)).cell? ⟨w.heap.size, 0, none⟩ = some (.slice a N.pcs.length cap) := by simp [go_sem]
  have n1 : (((w.alloc (.cells #[.slice a N.pcs.length cap, .slice a' N.jts.length cap'] 26)).alloc (.cells #[.int .i64 x0, .int .i64 x1, .int .i64 x2, .int .i64 far, .slice z ss.length c] 71)).alloc (.cells #[.bool false, .int .i64 0, .slice none 0 0, .slice none 0 0] 34)).cell? ⟨w.heap.size, 1, none⟩ = some (.slice a' N.jts.length cap') := by simp [go_sem]
  have c3 : (((w.alloc (.cells #[.slice a N.pcs.length cap, .slice a' N.jts.length cap'] 26)).alloc (.cells #[.int .i64 x0, .int .i64 x1, .int .i64 x2, .int .i64 far, .slice z ss.length c] 71)).alloc (.cells #[.bool false, .int .i64 0, .slice none 0 0, .slice none 0 0] 34)).cell? ⟨w.heap.size + 1, 3, none⟩ = some (.int .i64 far) := by simp [go_sem]
  have c4 : (((w.alloc (.cells #[.slice a N.pcs.length cap, .slice a' N.jts.length cap'] 26)).alloc (.cells #[.int .i64 x0, .int .i64 x1, .int .i64 x2, .int .i64 far, .slice z ss.length c] 71)).alloc (.cells #[.bool false, .int .i64 0, .slice none 0 0, .slice none 0 0] 34)).cell? ⟨w.heap.size + 1, 4, none⟩ = some (.slice z ss.length c) := by simp [go_sem]
  clear hj hm hz hsteps hB3
  go_enter Tryz.func29, Tryz.ntmps29
  go_upto_region 1 with fail
  generalize (((w.alloc (.cells #[.slice a N.pcs.length cap, .slice a' N.jts.length cap'] 26)).alloc (.cells #[.int .i64 x0, .int .i64 x1, .int .i64 x2, .int .i64 far, .slice z ss.length c] 71)).alloc (.cells #[.bool false, .int .i64 0, .slice none 0 0, .slice none 0 0] 34)) = w3 at *
  go_wp2_with fail
  refine (l4lies_any a a' z N cap cap' c ss _ hn hl HM.out hright HST.out (HJ.out.later HB3.out) (HZ.out.1.later HB3.out)).mono ?_
  rintro e w4 ⟨v, ok, rfl, hLR, hb4⟩
  have hge : ∀ b o n' c', v = .slice (some ⟨b, o, none⟩) n' c' → w3.heap.size ≤ b := by
    rcases hLR with ⟨_, h2, _⟩ | ⟨out, _, _, _, h4⟩
    · intro b o n' c' e
      rw [h2] at e
      cases e
    · intro b o n' c' e
      exact owns_ge h4 e
  obtain ⟨zl, cl, rfl, hLE, hL4⟩ := lies_of_R hLR
  have HGE := hide (show ∀ b o, zl = some ⟨b, o, none⟩ → w3.heap.size ≤ b from fun b o e => hge b o _ _ (by rw [e]))
  have HLE := hide hLE
  have HZ4 := hide (HZ3.out.later hb4)
  have c3 := cell_later' hb4 c3
  have c4 := cell_later' hb4 c4
  have HB4 := hide (HB3.out.trans (hb4.mono HB3.out.size))
  have hs3 := HB3.out.size
  have hz3 := cell_lt HZ3.out.1.1
  obtain ⟨⟨z0, z1, z2, z3⟩, fz, hT⟩ := HZ4.out
  have f0 := fz 0
  have f1 := fz 1
  have f2 := fz 2
  have f3 := fz 3
  have hz6 := cell_lt z0
  have HB7 := hide (below4 (b := w.heap.size + 1 + 1) HB4.out (by omega) (.bool true) (.int .i64 far) (.slice z ss.length c) (.slice zl ((liesQ N ss).getD []).length cl))
  have hmd := mid4 w4 (w.heap.size + 1 + 1) (.bool true) (.int .i64 far) (.slice z ss.length c) (.slice zl ((liesQ N ss).getD []).length cl)
  have HLF := hide (ends_mid HLE.out hmd (fun b o e => by
    have h := HGE.out b o e
    omega))
  have HGF := hide (show ∀ b o, zl = some ⟨b, o, none⟩ → w.heap.size ≤ b from fun b o e => by
    have h := HGE.out b o e
    omega)
  clear hmd fz hT hLE hLR hge hb4 n0 n1
  go_wp2_with fail
  exact bodyPost_ret (v := .agg #[.bool true, .int .i64 far, .slice z ss.length c, .slice zl ((liesQ N ss).getD []).length cl]) (by simp [results, Tryz.results29, go_sem, z0, z1, z2, z3]) rfl ⟨zl, cl, rfl, HLF.out, HGF.out, hL4, HB7.out⟩
end Go.Proofs.YtldafgbhjpfboaaGreat

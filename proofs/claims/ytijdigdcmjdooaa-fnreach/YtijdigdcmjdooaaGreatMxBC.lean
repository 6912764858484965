/- spec.Reach: what lies where. Own work. -/
import Derived.Test.YtijdigdcmjdooaaGreatMxAN
import Derived.Test.YtijdigdcmjdooaaGreatMxBB
namespace Go.Proofs.YtijdigdcmjdooaaGreat
open Go.RowKit Go.Sort
set_option maxHeartbeats 4000000
set_option maxRecDepth 100000

/-! ### Rows of drives as the specification has them -/
def lc5 (F : Int) (x : Dv) : List Value := [.int .i64 x.1.1, .int .i64 x.1.2.1, .int .i64 x.1.2.2, .int .i64 (F - x.2), .slice none 0 0]
def lcCells (F : Int) (l : List Dv) : List Value := l.flatMap (lc5 F)
theorem lcCells_add (F : Int) (l : List Dv) (x : Dv) : lcCells F (l ++ [x]) = lcCells F l ++ lc5 F x := by simp [lcCells]
theorem lcCells_at (F : Int) (l : List Dv) : ∀ k (hk : k < l.length), (lcCells F l)[k * 5]? = some (.int .i64 l[k].1.1) ∧ (lcCells F l)[k * 5 + 1]? = some (.int .i64 l[k].1.2.1) ∧ (lcCells F l)[k * 5 + 2]? = some (.int .i64 l[k].1.2.2) ∧ (lcCells F l)[k * 5 + 3]? = some (.int .i64 (F - l[k].2)) ∧ (lcCells F l)[k * 5 + 4]? = some (.slice none 0 0) := by
  induction l with
  | nil => intro k hk; simp at hk
  | cons x l ih =>
    intro k hk
    have e : lcCells F (x :: l) = lc5 F x ++ lcCells F l := rfl
    have hl : (lc5 F x).length = 5 := rfl
    rw [e]
    match k, hk with
    | 0, _ => exact ⟨rfl, rfl, rfl, rfl, rfl⟩
    | k + 1, hk =>
      obtain ⟨h0, h1, h2, h3, h4⟩ := ih k (by simpa using hk)
      refine ⟨?_, ?_, ?_, ?_, ?_⟩ <;> rw [List.getElem?_append_right (by rw [hl]; omega), hl]
      · rw [show (k + 1) * 5 - 5 = k * 5 by omega]; exact h0
      · rw [show (k + 1) * 5 + 1 - 5 = k * 5 + 1 by omega]; exact h1
      · rw [show (k + 1) * 5 + 2 - 5 = k * 5 + 2 by omega]; exact h2
      · rw [show (k + 1) * 5 + 3 - 5 = k * 5 + 3 by omega]; exact h3
      · rw [show (k + 1) * 5 + 4 - 5 = k * 5 + 4 by omega]; exact h4
theorem lcs_form {w : World} {base : Nat} {F : Int} {v : Value} {l : List Dv} (h : w.ownsRow base 87 5 v l.length (lcCells F l)) : ∃ z c, v = .slice z l.length c := by
  rcases id h.2 with ⟨rfl, h0⟩ | ⟨g, cap, cur, rfl, _⟩
  · exact ⟨none, 0, by rw [h0]⟩
  · exact ⟨_, cap, rfl⟩
theorem lcs_rd {w : World} {base n c : Nat} {F : Int} {z : Option Addr} {l : List Dv} (h : w.ownsRow base 87 5 (.slice z n c) l.length (lcCells F l)) {k : Nat} (hk : k < l.length) : ∃ g, z = some ⟨g, 0, none⟩ ∧ w.cell? ⟨g, k * 5, none⟩ = some (.int .i64 l[k].1.1) ∧ w.cell? ⟨g, k * 5 + 1, none⟩ = some (.int .i64 l[k].1.2.1) ∧ w.cell? ⟨g, k * 5 + 2, none⟩ = some (.int .i64 l[k].1.2.2) ∧ w.cell? ⟨g, k * 5 + 3, none⟩ = some (.int .i64 (F - l[k].2)) ∧ w.cell? ⟨g, k * 5 + 4, none⟩ = some (.slice none 0 0) := by
  rcases id h.2 with ⟨e, h0⟩ | ⟨g, cap, cur, e, _⟩
  · omega
  · obtain ⟨rfl, rfl, rfl⟩ : z = some ⟨g, 0, none⟩ ∧ n = l.length ∧ c = cap := by simpa using e
    obtain ⟨a0, a1, a2, a3, a4⟩ := lcCells_at F l k hk
    exact ⟨g, rfl, (h.cellAt _ (by omega)).trans a0, (h.cellAt _ (by omega)).trans a1, (h.cellAt _ (by omega)).trans a2, (h.cellAt _ (by omega)).trans a3, (h.cellAt _ (by omega)).trans a4⟩
/-! ### Rows of spots -/
theorem partCells_at3 (l : List (Int × Int × Int)) : ∀ k (hk : k < l.length), (partCells l)[k * 3]? = some (.int .i64 l[k].1) ∧ (partCells l)[k * 3 + 1]? = some (.int .i64 l[k].2.1) ∧ (partCells l)[k * 3 + 2]? = some (.int .i64 l[k].2.2) := by
  induction l with
  | nil => intro k hk; simp at hk
  | cons x l ih =>
    intro k hk
    have e : partCells (x :: l) = [.int .i64 x.1, .int .i64 x.2.1, .int .i64 x.2.2] ++ partCells l := by simp [partCells]
    rw [e]
    match k, hk with
    | 0, _ => exact ⟨rfl, rfl, rfl⟩
    | k + 1, hk =>
      obtain ⟨h0, h1, h2⟩ := ih k (by simpa using hk)
      refine ⟨?_, ?_, ?_⟩ <;> rw [List.getElem?_append_right (by simp; omega)]
      · rw [show (k + 1) * 3 - [Value.int .i64 x.1, .int .i64 x.2.1, .int .i64 x.2.2].length = k * 3 by simp; omega]; exact h0
      · rw [show (k + 1) * 3 + 1 - [Value.int .i64 x.1, .int .i64 x.2.1, .int .i64 x.2.2].length = k * 3 + 1 by simp; omega]; exact h1
      · rw [show (k + 1) * 3 + 2 - [Value.int .i64 x.1, .int .i64 x.2.1, .int .i64 x.2.2].length = k * 3 + 2 by simp; omega]; exact h2
theorem sps_form {w : World} {base : Nat} {v : Value} {l : List (Int × Int × Int)} (h : w.ownsRow base 29 3 v l.length (partCells l)) : ∃ z c, v = .slice z l.length c := by
  rcases id h.2 with ⟨rfl, h0⟩ | ⟨g, cap, cur, rfl, _⟩
  · exact ⟨none, 0, by rw [h0]⟩
  · exact ⟨_, cap, rfl⟩
theorem sps_form9 {w : World} {base n : Nat} {e : TypeId} {size : Nat} {v : Value} {xs : List Value} (h : w.ownsRow base e size v n xs) : ∃ z c, v = .slice z n c := by
  rcases id h.2 with ⟨rfl, h0⟩ | ⟨g, cap, cur, rfl, _⟩
  · exact ⟨none, 0, by rw [h0]⟩
  · exact ⟨_, cap, rfl⟩
theorem sps_rd {w : World} {base n c : Nat} {z : Option Addr} {l : List (Int × Int × Int)} (h : w.ownsRow base 29 3 (.slice z n c) l.length (partCells l)) {k : Nat} (hk : k < l.length) : ∃ g, z = some ⟨g, 0, none⟩ ∧ w.cell? ⟨g, k * 3, none⟩ = some (.int .i64 l[k].1) ∧ w.cell? ⟨g, k * 3 + 1, none⟩ = some (.int .i64 l[k].2.1) ∧ w.cell? ⟨g, k * 3 + 2, none⟩ = some (.int .i64 l[k].2.2) := by
  rcases id h.2 with ⟨e, h0⟩ | ⟨g, cap, cur, e, _⟩
  · omega
  · obtain ⟨rfl, rfl, rfl⟩ : z = some ⟨g, 0, none⟩ ∧ n = l.length ∧ c = cap := by simpa using e
    obtain ⟨a0, a1, a2⟩ := partCells_at3 l k hk
    exact ⟨g, rfl, (h.cellAt _ (by omega)).trans a0, (h.cellAt _ (by omega)).trans a1, (h.cellAt _ (by omega)).trans a2⟩
/-! ### What lies where -/
structure RI (w wr : World) (v0 v1 : Value) (F : Int) (ov : Value) (out : List (Int × Int × Int)) (lv : Value) (line : List Dv) (nv : Value) (nx : List Dv) : Prop where
  n0 : wr.cell? ⟨w.heap.size, 0, none⟩ = some v0
  n1 : wr.cell? ⟨w.heap.size, 1, none⟩ = some v1
  below : Below w.heap.size w wr
  oo : wr.ownsRow (w.heap.size + 2) 29 3 ov out.length (partCells out)
  ol : wr.ownsRow (w.heap.size + 2) 87 5 lv line.length (lcCells F line)
  on : wr.ownsRow (w.heap.size + 2) 87 5 nv nx.length (lcCells F nx)
  d : ∀ g, nv.ownBlock = some g → lv.ownBlock ≠ some g
section
variable {w wr wr' : World} {v0 v1 ov lv nv : Value} {F : Int} {out : List (Int × Int × Int)} {line nx : List Dv}
theorem RI.later (h : RI w wr v0 v1 F ov out lv line nv nx) (hb : Below wr.heap.size wr wr') : RI w wr' v0 v1 F ov out lv line nv nx :=
  ⟨cell_later' hb h.n0, cell_later' hb h.n1, h.below.trans (hb.mono h.below.size), owns_later' h.oo hb, owns_later' h.ol hb, owns_later' h.on hb, h.d⟩
theorem own_other {w : World} {base : Nat} {e e' : TypeId} {sz sz' : Nat} {v v' : Value} {n n' : Nat} {xs xs' : List Value} (h : w.ownsRow base e sz v n xs) (h' : w.ownsRow base e' sz' v' n' xs') (hne : e ≠ e') : v.ownBlock = none ∨ v.ownBlock ≠ v'.ownBlock := by
  cases hv : v.ownBlock with
  | none => exact .inl rfl
  | some g =>
    refine .inr fun e1 => ?_
    obtain ⟨cur, hc⟩ : ∃ cur, w.heap[g]? = some (.cells cur e (0, 0)) := by
      rcases h.2 with ⟨h', _⟩ | ⟨g', cap, cur', hv', _, hg, _⟩
      · rw [h'] at hv; cases hv
      · rw [hv'] at hv
        have : g' = g := by simpa [Value.ownBlock] using hv
        subst this
        exact ⟨_, hg⟩
    exact owns_type h' e1.symm (fun e2 => hne e2.symm) cur (0, 0) hc
theorem RI.grownCell (h : RI w wr v0 v1 F ov out lv line nv nx) {row : Option Nat} (hg : wr.grownBy wr' row) (hr : ∀ g, row = some g → w.heap.size + 2 ≤ g) : wr'.cell? ⟨w.heap.size, 0, none⟩ = some v0 ∧ wr'.cell? ⟨w.heap.size, 1, none⟩ = some v1 ∧ Below w.heap.size w wr' := by
  have hne : some w.heap.size ≠ row := fun e => by have := hr _ e.symm; omega
  exact ⟨hg.cell h.n0 (fun e => hne e), hg.cell h.n1 (fun e => hne e), h.below.grown hg h.below.size (fun k e => by have := hr k e; omega)⟩
theorem RI.appOut (h : RI w wr v0 v1 F ov out lv line nv nx) (hg : wr.grownBy wr' ov.ownBlock) {g cp : Nat} {s : Int × Int × Int} (hown : wr'.ownsRow (w.heap.size + 2) 29 3 (.slice (some ⟨g, 0, none⟩) (out.length + 1) cp) (out.length + 1) (partCells out ++ [.int .i64 s.1, .int .i64 s.2.1, .int .i64 s.2.2])) : RI w wr' v0 v1 F (.slice (some ⟨g, 0, none⟩) (out.length + 1) cp) (out ++ [s]) lv line nv nx := by
  obtain ⟨n0, n1, hb⟩ := h.grownCell hg (fun k e => (h.oo.lt k e).1)
  refine ⟨n0, n1, hb, ?_, h.ol.kept hg (own_other h.ol h.oo (by decide)), h.on.kept hg (own_other h.on h.oo (by decide)), h.d⟩
  rw [partCells_app', List.length_append]
  exact hown
theorem RI.appNext (h : RI w wr v0 v1 F ov out lv line nv nx) (hg : wr.grownBy wr' nv.ownBlock) {g cp : Nat} {x : Dv} (hown : wr'.ownsRow (w.heap.size + 2) 87 5 (.slice (some ⟨g, 0, none⟩) (nx.length + 1) cp) (nx.length + 1) (lcCells F nx ++ lc5 F x)) (hnew : nv.ownBlock = some g ∨ wr.heap.size ≤ g) : RI w wr' v0 v1 F ov out lv line (.slice (some ⟨g, 0, none⟩) (nx.length + 1) cp) (nx ++ [x]) := by
  obtain ⟨n0, n1, hb⟩ := h.grownCell hg (fun k e => (h.on.lt k e).1)
  have hll : lv.ownBlock = none ∨ lv.ownBlock ≠ nv.ownBlock := by
    cases hv : lv.ownBlock with
    | none => exact .inl rfl
    | some g' => exact .inr fun e => h.d g' e.symm hv
  refine ⟨n0, n1, hb, h.oo.kept hg (own_other h.oo h.on (by decide)), h.ol.kept hg hll, ?_, fun g' e => ?_⟩
  · rw [lcCells_add, List.length_append]
    exact hown
  · have e' : g = g' := by simpa [Value.ownBlock] using e
    subst e'
    rcases hnew with h' | h'
    · exact h.d g h'
    · intro e2
      have := (h.ol.lt g e2).2
      omega
theorem RI.off (h : RI w wr v0 v1 F ov out lv line nv nx) {bX o : Nat} (hx : w.heap.size < bX) (h1 : ov.ownBlock ≠ some bX) (h2 : lv.ownBlock ≠ some bX) (h3 : nv.ownBlock ≠ some bX) (u : Value) : RI w (wr.setCell ⟨bX, o, none⟩ u) v0 v1 F ov out lv line nv nx := by
  have hm : Mid bX (bX + 1) wr (wr.setCell ⟨bX, o, none⟩ u) := Mid.set1 _
  exact ⟨hm.cell (.inl hx) h.n0, hm.cell (.inl hx) h.n1, h.below.setCell (p := ⟨bX, o, none⟩) (Nat.le_of_lt hx) u, owns_off h.oo hm h1, owns_off h.ol hm h2, owns_off h.on hm h3, h.d⟩
theorem RI.turn (h : RI w wr v0 v1 F ov out lv line nv nx) : RI w wr v0 v1 F ov out nv nx (.slice none 0 0) [] :=
  ⟨h.n0, h.n1, h.below, h.oo, h.on, World.ownsRow_nil _ _ _ _, fun g e => by simp [Value.ownBlock] at e⟩
end
/-! ### What stays while rows grow -/
structure Keep4 (M : Nat) (w5 wx : World) (ov nv : Value) : Prop where
  size : w5.heap.size ≤ wx.heap.size
  block : ∀ b, M ≤ b → b < w5.heap.size → wx.heap[b]? = w5.heap[b]?
  off : ∀ g, ov.ownBlock = some g ∨ nv.ownBlock = some g → g < M ∨ w5.heap.size ≤ g
section
variable {M : Nat} {w5 wx wx' : World} {ov nv : Value}
theorem Keep4.start (h : ∀ g, ov.ownBlock = some g ∨ nv.ownBlock = some g → g < M) : Keep4 M w5 w5 ov nv := ⟨Nat.le_refl _, fun _ _ _ => rfl, fun g e => .inl (h g e)⟩
theorem Keep4.below (h : Keep4 M w5 wx ov nv) (hb : Below wx.heap.size wx wx') : Keep4 M w5 wx' ov nv :=
  ⟨Nat.le_trans h.size hb.size, fun b h1 h2 => (hb.block b (Nat.lt_of_lt_of_le h2 h.size)).trans (h.block b h1 h2), h.off⟩
theorem Keep4.appO (h : Keep4 M w5 wx ov nv) (hg : wx.grownBy wx' ov.ownBlock) {ov' : Value} (hn : ∀ g, ov'.ownBlock = some g → ov.ownBlock = some g ∨ wx.heap.size ≤ g) : Keep4 M w5 wx' ov' nv := by
  refine ⟨Nat.le_trans h.size hg.size, fun b h1 h2 => (hg.block b (Nat.lt_of_lt_of_le h2 h.size) (fun e => ?_)).trans (h.block b h1 h2), fun g e => ?_⟩
  · rcases h.off b (.inl e.symm) with h' | h' <;> omega
  · rcases e with e | e
    · rcases hn g e with h' | h'
      · exact h.off g (.inl h')
      · exact .inr (Nat.le_trans h.size h')
    · exact h.off g (.inr e)
theorem Keep4.appN (h : Keep4 M w5 wx ov nv) (hg : wx.grownBy wx' nv.ownBlock) {nv' : Value} (hn : ∀ g, nv'.ownBlock = some g → nv.ownBlock = some g ∨ wx.heap.size ≤ g) : Keep4 M w5 wx' ov nv' := by
  refine ⟨Nat.le_trans h.size hg.size, fun b h1 h2 => (hg.block b (Nat.lt_of_lt_of_le h2 h.size) (fun e => ?_)).trans (h.block b h1 h2), fun g e => ?_⟩
  · rcases h.off b (.inr e.symm) with h' | h' <;> omega
  · rcases e with e | e
    · exact h.off g (.inl e)
    · rcases hn g e with h' | h'
      · exact h.off g (.inr h')
      · exact .inr (Nat.le_trans h.size h')
theorem Keep4.off9 (h : Keep4 M w5 wx ov nv) {bX o : Nat} (hb : w5.heap.size ≤ bX) (u : Value) : Keep4 M w5 (wx.setCell ⟨bX, o, none⟩ u) ov nv :=
  ⟨by rw [World.size_setCell]; exact h.size, fun b h1 h2 => (Below.heap_setCell _ _ _ b (by show b ≠ bX; omega)).trans (h.block b h1 h2), h.off⟩
theorem Keep4.cell (h : Keep4 M w5 wx ov nv) {b o : Nat} {u : Value} (hb : M ≤ b) (hc : w5.cell? ⟨b, o, none⟩ = some u) : wx.cell? ⟨b, o, none⟩ = some u := by
  rw [World.cell?_of_block (a := ⟨b, o, none⟩) (h.block b hb (cell_lt hc))]
  exact hc
theorem Keep4.ends (h : Keep4 M w5 wx ov nv) {z : Option Addr} {l : List (Int × Int)} (hz : ∀ b o, z = some ⟨b, o, none⟩ → M ≤ b) (he : EndsAt w5 z l) : EndsAt wx z l := by
  intro k hk
  obtain ⟨b, o, rfl, c0, c1⟩ := he k hk
  exact ⟨b, o, rfl, h.cell (hz b o rfl) c0, h.cell (hz b o rfl) c1⟩
end
/-! ### Candidates one by one -/
theorem runR_snoc (N : Nt) (st) (l : List Dv) (x : Dv) : runR N st (l ++ [x]) = stepR N (runR N st l) x := by
  unfold runR
  rw [List.foldl_append]
  rfl
theorem candsR_succ {N : Nt} {line : List Dv} {j : Nat} (hj : j < line.length) : candsR N (line.take (j + 1)) = candsR N (line.take j) ++ sonsR N line[j] := by
  unfold candsR
  rw [List.take_succ_eq_append_getElem hj, List.flatMap_append]
  simp only [List.flatMap_cons, List.flatMap_nil, List.append_nil]
theorem sonsR_take {N : Nt} {c : Dv} {L : List (Int × Int)} (hL : nxP N (headP c.1.1 c.1.2.2) = L) {i : Nat} (hi : i < L.length) : (sonsR N c).take (i + 1) = (sonsR N c).take i ++ [(enterP N L[i], c.2 - roomS N c.1)] := by
  unfold sonsR
  rw [hL, ← List.map_take, ← List.map_take, List.take_succ_eq_append_getElem hi, List.map_append]
  rfl
theorem sonsR_all {N : Nt} {c : Dv} {L : List (Int × Int)} (hL : nxP N (headP c.1.1 c.1.2.2) = L) : (sonsR N c).take L.length = sonsR N c := by
  refine List.take_of_length_le ?_
  unfold sonsR
  rw [hL, List.length_map]
  exact Nat.le_refl _
theorem stepR_len (N : Nt) (st) (x : Dv) : (stepR N st x).2.length ≤ st.2.length + 1 := by
  unfold stepR
  split
  · exact Nat.le_succ _
  · exact (addO_len _ _).2
theorem runR_len (N : Nt) : ∀ (xs : List Dv) (st), (runR N st xs).2.length ≤ st.2.length + xs.length
  | [], _ => Nat.le_refl _
  | x :: xs, st => by
    have h1 := runR_len N xs (stepR N st x)
    have h2 := stepR_len N st x
    have e : runR N st (x :: xs) = runR N (stepR N st x) xs := rfl
    rw [e, List.length_cons]
    omega
theorem runR_len1 (N : Nt) : ∀ (xs : List Dv) (st), (runR N st xs).1.length ≤ st.1.length + xs.length
  | [], _ => Nat.le_refl _
  | x :: xs, st => by
    have h1 := runR_len1 N xs (stepR N st x)
    have h2 : (stepR N st x).1.length ≤ st.1.length + 1 := by
      unfold stepR
      split
      · exact (addO_len _ _).2
      · exact Nat.le_succ _
    have e : runR N st (x :: xs) = runR N (stepR N st x) xs := rfl
    rw [e, List.length_cons]
    omega
theorem any_snoc {α : Type} {l : List α} {p : Nat} (hp : p < l.length) (f : α → Bool) : (l.take (p + 1)).any f = ((l.take p).any f || f l[p]) := by
  rw [List.take_succ_eq_append_getElem hp, List.any_append]
  simp
theorem any_mem {α : Type} [BEq α] [LawfulBEq α] {l : List α} {x : α} (h : true = l.any (fun e => e == x)) : x ∈ l := by
  have h' := h.symm
  rw [List.any_eq_true] at h'
  obtain ⟨y, hy1, hy2⟩ := h'
  rw [beq_iff_eq] at hy2
  rw [← hy2]
  exact hy1
theorem any_not {α : Type} [BEq α] [LawfulBEq α] {l : List α} {x : α} (h : false = l.any (fun e => e == x)) : x ∉ l := by
  intro hx
  have : l.any (fun e => e == x) = true := by rw [List.any_eq_true]; exact ⟨_, hx, by simp⟩
  rw [← h] at this
  cases this
theorem candsR_len (N : Nt) : ∀ (l : List Dv), (candsR N l).length ≤ 2 * l.length
  | [] => by simp [candsR]
  | y :: l => by
    have ih := candsR_len N l
    have e : candsR N (y :: l) = sonsR N y ++ candsR N l := rfl
    have h1 := sons_len N y
    rw [e, List.length_append, List.length_cons]
    omega
theorem RdI.run {N : Nt} {F : Int} {n m : Nat} : ∀ (xs : List Dv) {st}, RdI N F n m st → (∀ x ∈ xs, DvOk N F x) → RdI N F (n + xs.length) (m + xs.length) (runR N st xs)
  | [], _, h, _ => h
  | x :: xs, st, h, hx => by
    have h1 := RdI.run (n := n + 1) (m := m + 1) xs (h.step (hx x (List.mem_cons_self ..))) (fun y hy => hx y (List.mem_cons_of_mem _ hy))
    rw [List.length_cons, show n + (xs.length + 1) = n + 1 + xs.length by omega, show m + (xs.length + 1) = m + 1 + xs.length by omega]
    exact h1
theorem cands_ok {N : Nt} (hr : netOk N = (0, 0)) {F : Int} {line : List Dv} (h : ∀ c ∈ line, DvOk N F c ∧ endsR N c = false) : ∀ x ∈ candsR N line, DvOk N F x ∧ 0 < x.2 := by
  intro x hx
  obtain ⟨c, hc, hx⟩ := List.mem_flatMap.1 hx
  exact sons_ok hr (h c hc).1 (h c hc).2 x hx
/-- What stands ahead of a round. -/
structure GoI (N : Nt) (F : Int) (os : List (Int × Int × Int)) (ls : List Dv) : Prop where
  out : ∀ s ∈ os, spotS N s = true
  nd : os.Nodup
  line : ∀ x ∈ ls, DvOk N F x ∧ endsR N x = false
theorem GoI.start {N : Nt} {F : Int} {out line} (h : GoI N F out line) : RdI N F out.length 0 (out, []) := ⟨h.out, h.nd, by simp, Nat.le_refl _, Nat.le_refl _⟩
theorem GoI.round {N : Nt} (hr : netOk N = (0, 0)) {F : Int} {out line} (h : GoI N F out line) : GoI N F (roundR N out line).1 (roundR N out line).2 ∧ (roundR N out line).1.length ≤ out.length + 2 * line.length ∧ (roundR N out line).2.length ≤ 2 * line.length := by
  have h1 := h.start.run (candsR N line) (fun x hx => (cands_ok hr h.line x hx).1)
  have hl := candsR_len N line
  exact ⟨⟨h1.out, h1.nd, h1.line⟩, Nat.le_trans h1.few (by omega), Nat.le_trans h1.fewL (by omega)⟩
theorem GoI.first {N : Nt} {F : Int} {x : Dv} (h : DvOk N F x) : GoI N F (stepR N ([], []) x).1 (stepR N ([], []) x).2 := by
  have h0 : RdI N F 0 0 (([], []) : List (Int × Int × Int) × List Dv) := ⟨by simp, List.nodup_nil, by simp, Nat.le_refl _, Nat.le_refl _⟩
  have h1 := h0.step h
  exact ⟨h1.out, h1.nd, h1.line⟩
end Go.Proofs.YtijdigdcmjdooaaGreat

/- Reach: the rounds, plain. Own work. -/
namespace Go.Proofs.YtijdigdcmjdooaaGreat
open Go.RowKit

/-- How it stands. -/
def standP (num : Int) (out line : Nat) : Int := if 200 < out ∨ 1000 < line then 2 else if 1000 < num then 2 else if line = 0 then 1 else 0
/-- What the loop keeps: what is told in the end, seen from here. -/
structure LoopI (N : Nt) (F : Int) (an : Option (List (Int × Int × Int))) (nu : Nat) (os : List (Int × Int × Int)) (ls : List Dv) : Prop where
  go : GoI N F os ls
  few : os.length ≤ 2200
  fewL : ls.length ≤ 2000
  num : nu ≤ 1001
  ans : an = if standP nu os.length ls.length = 2 then none else goR N (1000 - nu) os ls
theorem standP_two {num : Nat} {o l : Nat} : standP num o l = 2 ↔ (200 < o ∨ 1000 < l ∨ 1000 < num) := by
  unfold standP
  split
  · omega
  · split
    · omega
    · split <;> omega
theorem standP_one {num : Nat} {o l : Nat} : standP num o l = 1 ↔ (o ≤ 200 ∧ l ≤ 1000 ∧ num ≤ 1000 ∧ l = 0) := by
  unfold standP
  split
  · omega
  · split
    · omega
    · split <;> omega
theorem standP_zero {num : Nat} {o l : Nat} : standP num o l = 0 ↔ (o ≤ 200 ∧ l ≤ 1000 ∧ num ≤ 1000 ∧ 0 < l) := by
  unfold standP
  split
  · omega
  · split
    · omega
    · split <;> omega
theorem LoopI.first {N : Nt} {F : Int} {x : Dv} (h : DvOk N F x) : LoopI N F (goR N 1000 (stepR N ([], []) x).1 (stepR N ([], []) x).2) 0 (stepR N ([], []) x).1 (stepR N ([], []) x).2 := by
  have h1 : (stepR N ([], []) x).1.length ≤ 1 ∧ (stepR N ([], []) x).2.length ≤ 1 := by
    have h0 : RdI N F 0 0 (([], []) : List (Int × Int × Int) × List Dv) := ⟨by simp, List.nodup_nil, by simp, Nat.le_refl _, Nat.le_refl _⟩
    have h2 := h0.step h
    exact ⟨h2.few, h2.fewL⟩
  refine ⟨GoI.first h, by omega, by omega, by omega, ?_⟩
  rw [if_neg]
  rw [standP_two]
  omega
theorem LoopI.next {N : Nt} (hr : netOk N = (0, 0)) {F : Int} {ans} {num : Nat} {out line} (h : LoopI N F ans num out line) (hs : standP num out.length line.length = 0) : LoopI N F ans (num + 1) (roundR N out line).1 (roundR N out line).2 := by
  obtain ⟨h1, h2, h3, h4⟩ := standP_zero.1 hs
  obtain ⟨g1, g2, g3⟩ := h.go.round hr
  have hne : line ≠ [] := fun e => by rw [e] at h4; simp at h4
  refine ⟨g1, by omega, by omega, by omega, ?_⟩
  rw [h.ans, if_neg (by rw [hs]; omega)]
  split
  · rename_i h5
    rw [standP_two] at h5
    by_cases hm : muchR (roundR N out line) = true
    · exact goR_much hne hm
    · have : 1000 < num + 1 := by
        rcases h5 with h5 | h5 | h5
        · exact absurd (show muchR (roundR N out line) = true by simp [muchR, h5]) hm
        · exact absurd (show muchR (roundR N out line) = true by simp [muchR, h5]) hm
        · exact h5
      rw [show 1000 - num = 0 by omega]
      exact goR_zero N out hne
  · rename_i h5
    rw [standP_two] at h5
    have hm : muchR (roundR N out line) = false := by
      simp only [muchR, Bool.or_eq_false_iff, decide_eq_false_iff_not]
      omega
    rw [show 1000 - num = (1000 - (num + 1)) + 1 by omega]
    exact goR_on hne hm
theorem LoopI.stop {N : Nt} {F : Int} {ans} {num : Nat} {out line} (h : LoopI N F ans num out line) (hs : standP num out.length line.length = 1) : ans = some out := by
  obtain ⟨_, _, _, h4⟩ := standP_one.1 hs
  rw [h.ans, if_neg (by rw [hs]; omega), List.eq_nil_of_length_eq_zero h4, goR_nil]
theorem LoopI.much {N : Nt} {F : Int} {ans} {num : Nat} {out line} (h : LoopI N F ans num out line) (hs : standP num out.length line.length = 2) : ans = none := by
  rw [h.ans, if_pos hs]
theorem standP_cases (num : Nat) (o l : Nat) : standP num o l = 0 ∨ standP num o l = 1 ∨ standP num o l = 2 := by
  unfold standP
  split
  · omega
  · split
    · omega
    · split <;> omega

end Go.Proofs.YtijdigdcmjdooaaGreat

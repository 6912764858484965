/- The laws' own helpers on paths (in part written by gen_lht.py out of those on ends). Own work. -/
import Derived.Test.YtijdigdcmjdooaaGreatMxAP
import Derived.Test.YtijdigdcmjdooaaGreatMxAR
import Derived.Test.YtijdigdcmjdooaaGreatMxAF
import Derived.Lib.QuietBelow
import Derived.BigQuiet
import Derived.BigRegion
import Derived.Deep.CutRange
namespace Go.Proofs.YtijdigdcmjdooaaGreat
open Go.RowKit
set_option maxHeartbeats 4000000

/-- A path that a call has made. -/
structure PathOwn (B : Nat) (w : World) (b1 b2 : Nat) (ss ls : List (Int × Int)) : Prop where
  lo : B ≤ b1
  ne : b1 < b2
  hi : b2 < w.heap.size
  r1 : Row w b1 132 (ss.length * 2)
  r2 : Row w b2 177 (ls.length * 2)
  s1 : EndsAt w (some ⟨b1, 0, none⟩) ss
  s2 : EndsAt w (some ⟨b2, 0, none⟩) ls
theorem PathOwn.later {B : Nat} {w w' : World} {b1 b2 : Nat} {ss ls : List (Int × Int)} (h : PathOwn B w b1 b2 ss ls) (hb : Below w.heap.size w w') : PathOwn B w' b1 b2 ss ls :=
  ⟨h.lo, h.ne, Nat.lt_of_lt_of_le h.hi hb.size, h.r1.later hb, h.r2.later hb, h.s1.later hb, h.s2.later hb⟩

theorem row_set {w : World} {b1 b o m : Nat} {T : TypeId} (h : Row w b1 T m) (hne : b ≠ b1) (v : Value) : Row (w.setCell ⟨b, o, none⟩ v) b1 T m := by
  obtain ⟨f, hf⟩ := h
  exact ⟨f, hf.of_block (Below.heap_setCell w ⟨b, o, none⟩ v b1 (fun e => hne e.symm))⟩
theorem ends_set {w : World} {z : Option Addr} {ss : List (Int × Int)} {b o : Nat} (h : EndsAt w z ss) (hne : ∀ c i, z = some ⟨c, i, none⟩ → b ≠ c) (v : Value) : EndsAt (w.setCell ⟨b, o, none⟩ v) z ss := by
  intro k hk
  obtain ⟨c, i, e, h1, h2⟩ := h k hk
  have := hne c i e
  refine ⟨c, i, e, ?_, ?_⟩
  · rw [World.cell?_setCell_far w ⟨b, o, none⟩ ⟨c, i + k * 2, none⟩ v this]; exact h1
  · rw [World.cell?_setCell_far w ⟨b, o, none⟩ ⟨c, i + k * 2 + 1, none⟩ v this]; exact h2
theorem PathOwn.set {B : Nat} {w : World} {b1 b2 b o : Nat} {ss ls : List (Int × Int)} (h : PathOwn B w b1 b2 ss ls) (hb : b < b1) (v : Value) : PathOwn B (w.setCell ⟨b, o, none⟩ v) b1 b2 ss ls :=
  ⟨h.lo, h.ne, by simp; exact h.hi, row_set h.r1 (by omega) v, row_set h.r2 (by have := h.ne; omega) v, ends_set h.s1 (fun c i e => by cases e; omega) v, ends_set h.s2 (fun c i e => by cases e; have := h.ne; omega) v⟩
/-- While a path is made. -/
structure TP (w wr : World) (ok : Bool) (far : Int) (vz vl v2 v3 : Value) : Prop where
  a2 : wr.cell? ⟨w.heap.size, 2, none⟩ = some vz
  a3 : wr.cell? ⟨w.heap.size, 3, none⟩ = some vl
  r0 : wr.cell? ⟨w.heap.size + 1, 0, none⟩ = some (.bool false)
  r1 : wr.cell? ⟨w.heap.size + 1, 1, none⟩ = some (.int .i64 0)
  r2 : wr.cell? ⟨w.heap.size + 1, 2, none⟩ = some (.slice none 0 0)
  r3 : wr.cell? ⟨w.heap.size + 1, 3, none⟩ = some (.slice none 0 0)
  o0 : wr.cell? ⟨w.heap.size + 1 + 1, 0, none⟩ = some (.bool ok)
  o1 : wr.cell? ⟨w.heap.size + 1 + 1, 1, none⟩ = some (.int .i64 far)
  o2 : wr.cell? ⟨w.heap.size + 1 + 1, 2, none⟩ = some v2
  o3 : wr.cell? ⟨w.heap.size + 1 + 1, 3, none⟩ = some v3
  fr : ∀ i, wr.frozen? ⟨w.heap.size + 1, i, none⟩ = false
  fo : ∀ i, wr.frozen? ⟨w.heap.size + 1 + 1, i, none⟩ = false
  size : w.heap.size + 1 + 1 < wr.heap.size
  below : Below w.heap.size w wr
theorem TP.later {w w1 w2 : World} {ok : Bool} {far : Int} {vz vl v2 v3 : Value} (h : TP w w1 ok far vz vl v2 v3) (hb : Below w1.heap.size w1 w2) : TP w w2 ok far vz vl v2 v3 :=
  ⟨cell_later' hb h.a2, cell_later' hb h.a3, cell_later' hb h.r0, cell_later' hb h.r1, cell_later' hb h.r2, cell_later' hb h.r3, cell_later' hb h.o0, cell_later' hb h.o1, cell_later' hb h.o2, cell_later' hb h.o3, fun i => by rw [hb.frozen (p := ⟨w.heap.size + 1, i, none⟩) (cell_lt h.r0)]; exact h.fr i, fun i => by rw [hb.frozen (p := ⟨w.heap.size + 1 + 1, i, none⟩) (cell_lt h.o0)]; exact h.fo i, Nat.lt_of_lt_of_le h.size hb.size, h.below.trans (hb.mono h.below.size)⟩
theorem TP.set2 {w w1 : World} {ok : Bool} {far : Int} {vz vl v2 v3 : Value} (h : TP w w1 ok far vz vl v2 v3) (v : Value) : TP w (w1.setCell ⟨w.heap.size + 1 + 1, 2, none⟩ v) ok far vz vl v v3 := by
  have e : ∀ b i, b < w.heap.size + 1 + 1 → (w1.setCell ⟨w.heap.size + 1 + 1, 2, none⟩ v).cell? ⟨b, i, none⟩ = w1.cell? ⟨b, i, none⟩ := fun b i hb => World.cell?_setCell_far w1 ⟨w.heap.size + 1 + 1, 2, none⟩ ⟨b, i, none⟩ v (by show w.heap.size + 1 + 1 ≠ b; omega)
  exact ⟨(e _ _ (by omega)).trans h.a2, (e _ _ (by omega)).trans h.a3, (e _ _ (by omega)).trans h.r0, (e _ _ (by omega)).trans h.r1, (e _ _ (by omega)).trans h.r2, (e _ _ (by omega)).trans h.r3, by simp [go_sem, h.o0], by simp [go_sem, h.o1], by simp [go_sem, h.o2], by simp [go_sem, h.o3], fun i => by rw [World.frozen?_setCell]; exact h.fr i, fun i => by rw [World.frozen?_setCell]; exact h.fo i, by simp; exact h.size, h.below.setCell (by show w.heap.size ≤ w.heap.size + 1 + 1; omega) _⟩
end Go.Proofs.YtijdigdcmjdooaaGreat

/- The heap of trails in memory; rise. Own work. -/
namespace Go.Proofs.YtijdigdcmjdooaaGreat
open Go.RowKit Go.Sort
set_option maxHeartbeats 8000000
set_option maxRecDepth 100000

/-- A trail, and where its steps lie. -/
structure It where
  y : Wy
  z : Option Addr
  c : Nat
instance : Inhabited It := ⟨⟨⟨0, []⟩, none, 0⟩⟩
def itCells (l : List It) : List Value := l.flatMap fun i => [.int .i64 i.y.far, .slice i.z i.y.ss.length i.c]
theorem itCells_len (l : List It) : (itCells l).length = l.length * 2 := by
  induction l with
  | nil => rfl
  | cons x l ih =>
    have e : itCells (x :: l) = .int .i64 x.y.far :: .slice x.z x.y.ss.length x.c :: itCells l := rfl
    rw [e]; simp only [List.length_cons, ih]; omega
theorem itCells_at (l : List It) : ∀ k (hk : k < l.length), (itCells l)[k * 2]? = some (.int .i64 l[k].y.far) ∧ (itCells l)[k * 2 + 1]? = some (.slice l[k].z l[k].y.ss.length l[k].c) := by
  induction l with
  | nil => intro k hk; simp at hk
  | cons x l ih =>
    intro k hk
    have e : itCells (x :: l) = .int .i64 x.y.far :: .slice x.z x.y.ss.length x.c :: itCells l := rfl
    cases k with
    | zero => exact ⟨rfl, rfl⟩
    | succ k =>
      have h := ih k (by simpa using hk)
      rw [e]
      have e1 : (k + 1) * 2 = k * 2 + 1 + 1 := by omega
      have e2 : (k + 1) * 2 + 1 = k * 2 + 1 + 1 + 1 := by omega
      rw [e1]
      simp only [List.getElem?_cons_succ, List.getElem_cons_succ]
      exact h
theorem itCells_set (l : List It) : ∀ k (x : It), k < l.length → itCells (l.set k x) = ((itCells l).set (k * 2) (.int .i64 x.y.far)).set (k * 2 + 1) (.slice x.z x.y.ss.length x.c) := by
  induction l with
  | nil => intro k x hk; simp at hk
  | cons a l ih =>
    intro k x hk
    have e : ∀ (a : It) (l : List It), itCells (a :: l) = .int .i64 a.y.far :: .slice a.z a.y.ss.length a.c :: itCells l := fun _ _ => rfl
    cases k with
    | zero => rfl
    | succ k =>
      have e1 : (k + 1) * 2 = k * 2 + 1 + 1 := by omega
      rw [List.set_cons_succ, e, e, ih k x (by simpa using hk), e1]
      rfl
/-- Steps in memory, in a row of steps. -/
def StRow (w : World) (z : Option Addr) (ss : List (Int × Int)) : Prop := EndsAt w z ss ∧ ∀ b o, z = some ⟨b, o, none⟩ → ∃ cur fz, w.heap[b]? = some (.cells cur 132 fz)
theorem StRow.later {w w' : World} {z ss} (h : StRow w z ss) (hb : Below w.heap.size w w') : StRow w' z ss := by
  refine ⟨h.1.later hb, fun b o e => ?_⟩
  obtain ⟨cur, fz, hc⟩ := h.2 b o e
  refine ⟨cur, fz, ?_⟩
  rw [hb.block b (by
    rcases Nat.lt_or_ge b w.heap.size with h | h
    · exact h
    · rw [Array.getElem?_eq_none h] at hc; cases hc)]
  exact hc
/-- Only one block that holds no steps has turned. -/
theorem StRow.mid {w w' : World} {z ss} {g : Nat} (h : StRow w z ss) (hm : Mid g (g + 1) w w') (hg : ∀ cur fz, w.heap[g]? ≠ some (.cells cur 132 fz)) : StRow w' z ss := by
  have hne : ∀ b o, z = some ⟨b, o, none⟩ → b ≠ g := fun b o e hbg => by
    obtain ⟨cur, fz, hc⟩ := h.2 b o e
    subst hbg
    exact hg _ _ hc
  constructor
  · intro k hk
    obtain ⟨b, o, e, h1, h2⟩ := h.1 k hk
    have := hne b o e
    exact ⟨b, o, e, hm.cell (by omega) h1, hm.cell (by omega) h2⟩
  · intro b o e
    have hbg := hne b o e
    obtain ⟨cur, fz, hc⟩ := h.2 b o e
    refine ⟨cur, fz, ?_⟩
    have hlt : b < w.heap.size := by
      rcases Nat.lt_or_ge b w.heap.size with h | h
      · exact h
      · rw [Array.getElem?_eq_none h] at hc; cases hc
    rw [hm.block b hlt (by omega)]
    exact hc
/-- The heap. -/
structure HpAt (w : World) (B base : Nat) (v : Value) (n : Nat) (l : List It) : Prop where
  len : l.length = n
  c0 : w.cell? ⟨B, 0, none⟩ = some (.func (.func 96) #[] #[])
  c1 : w.cell? ⟨B, 1, none⟩ = some v
  f1 : w.frozen? ⟨B, 1, none⟩ = false
  own : w.ownsRow base 101 2 v n (itCells l)
  lo : B < base
  st : ∀ i ∈ l, StRow w i.z i.y.ss ∧ i.y.ss.length ≤ 1000
  few : n ≤ 1000
  tB : ∀ cur fz, w.heap[B]? ≠ some (.cells cur 132 fz)
def leI (a b : It) : Prop := leW a.y b.y
def itF (l : List It) : Nat → It := fun k => l.getD k default
theorem order_q (za zb : Option Addr) (ca cb : Nat) (x y : Wy) (w : World) (hx : x.ss.length ≤ 1000) (ha : EndsAt w za x.ss) (hb : EndsAt w zb y.ss) (d : Nat) (os : Array Obj) :
    Calls Tryz.prog 96 #[.agg #[.int .i64 x.far, .slice za x.ss.length ca], .agg #[.int .i64 y.far, .slice zb y.ss.length cb]] (grow (redrawn w d) os) fun e w'' => e = .returned (.int .i64 (ordP x y)) ∧ ∃ p : Regrown, w'' = grow (redrawn w p.d) p.os :=
  Calls.regrown_of (order_any za zb ca cb x y _ (by omega) (ha.later (below_regrown w d os)) (hb.later (below_regrown w d os)))

theorem HpAt.later {w w' : World} {B base : Nat} {v : Value} {n : Nat} {l : List It} (h : HpAt w B base v n l) (hb : Below w.heap.size w w') : HpAt w' B base v n l :=
  ⟨h.len, cell_later' hb h.c0, cell_later' hb h.c1, by rw [hb.frozen (p := ⟨B, 1, none⟩) (cell_lt h.c1)]; exact h.f1, owns_later' h.own hb, h.lo, fun i hi => ⟨(h.st i hi).1.later hb, (h.st i hi).2⟩, h.few, fun cur fz e => h.tB cur fz (by rw [← hb.block B (cell_lt h.c0)]; exact e)⟩
def swapL (l : List It) (i j : Nat) : List It := (l.set i (l.getD j default)).set j (l.getD i default)
theorem swapL_len (l : List It) (i j : Nat) : (swapL l i j).length = l.length := by simp [swapL]
theorem swapL_f (l : List It) {i j : Nat} (hi : i < l.length) (hj : j < l.length) (hij : i ≠ j) : itF (swapL l i j) = swapF (itF l) i j := by
  funext k
  unfold itF swapL swapF
  by_cases hk : k < l.length
  · simp only [List.getD_eq_getElem?_getD, List.getElem?_set]
    by_cases h1 : j = k
    · subst h1
      have : ¬ j = i := fun e => hij e.symm
      simp [this, hj]
    · by_cases h2 : i = k
      · subst h2
        simp [h1, hi]
      · have h1' : ¬ k = j := fun e => h1 e.symm
        have h2' : ¬ k = i := fun e => h2 e.symm
        simp [h1, h2, h1', h2']
  · have h1 : ¬ k = i := by omega
    have h2 : ¬ k = j := by omega
    simp [h1, h2, hk]
theorem swapL_mem (l : List It) {i j : Nat} (hi : i < l.length) (hj : j < l.length) (x : It) : x ∈ swapL l i j ↔ x ∈ l := by
  unfold swapL
  constructor
  · intro h
    rcases List.mem_or_eq_of_mem_set h with h | h
    · rcases List.mem_or_eq_of_mem_set h with h | h
      · exact h
      · rw [h]; simp [List.getD_eq_getElem?_getD, hj]
    · rw [h]; simp [List.getD_eq_getElem?_getD, hi]
  · intro h
    obtain ⟨k, hk, rfl⟩ := List.getElem_of_mem h
    rw [List.mem_iff_getElem?]
    by_cases h1 : k = i
    · subst h1
      exact ⟨j, by simp [hj, hi]⟩
    · by_cases h2 : k = j
      · subst h2
        refine ⟨i, ?_⟩
        have : ¬ k = i := h1
        simp [this, hi, hk]
      · refine ⟨k, ?_⟩
        have h1' : ¬ i = k := fun e => h1 e.symm
        have h2' : ¬ j = k := fun e => h2 e.symm
        simp [h1', h2', hk]
end Go.Proofs.YtijdigdcmjdooaaGreat

/- The heap of trails: rise. Own work. -/
namespace Go.Proofs.YtijdigdcmjdooaaGreat
open Go.RowKit Go.Sort
set_option maxHeartbeats 8000000
set_option maxRecDepth 100000

theorem trail_block {w : World} {base g n cap : Nat} {xs : List Value} (h : w.ownsRow base 101 2 (.slice (some ⟨g, 0, none⟩) n cap) n xs) : ∀ cur fz, w.heap[g]? ≠ some (.cells cur 132 fz) := by
  rcases h.2 with ⟨h, _⟩ | ⟨g', cap', cur', hv, _, hg, _⟩
  · cases h
  · intro cur fz e
    have : g = g' := by simp at hv; exact hv.1
    subst this
    rw [hg] at e
    simp at e
theorem base_le {w : World} {base g n cap : Nat} {T : TypeId} {xs : List Value} (h : w.ownsRow base T 2 (.slice (some ⟨g, 0, none⟩) n cap) n xs) : base ≤ g ∧ g < w.heap.size := h.lt g rfl
theorem Mid.set1 {w : World} {g o : Nat} (u : Value) : Mid g (g + 1) w (w.setCell ⟨g, o, none⟩ u) := (Mid.refl _ _ _).setCell (Nat.le_refl _) (by omega) u
theorem HpAt.swap {w : World} {B base g cap n p i : Nat} {l : List It} (h : HpAt w B base (.slice (some ⟨g, 0, none⟩) n cap) n l) (hp : p < l.length) (hi : i < l.length) :
    HpAt ((((w.setCell ⟨g, p * 2, none⟩ (.int .i64 l[i].y.far)).setCell ⟨g, p * 2 + 1, none⟩ (.slice l[i].z l[i].y.ss.length l[i].c)).setCell ⟨g, i * 2, none⟩ (.int .i64 l[p].y.far)).setCell ⟨g, i * 2 + 1, none⟩ (.slice l[p].z l[p].y.ss.length l[p].c)) B base (.slice (some ⟨g, 0, none⟩) n cap) n (swapL l p i) ∧
    Mid g (g + 1) w ((((w.setCell ⟨g, p * 2, none⟩ (.int .i64 l[i].y.far)).setCell ⟨g, p * 2 + 1, none⟩ (.slice l[i].z l[i].y.ss.length l[i].c)).setCell ⟨g, i * 2, none⟩ (.int .i64 l[p].y.far)).setCell ⟨g, i * 2 + 1, none⟩ (.slice l[p].z l[p].y.ss.length l[p].c)) := by
  have hm : Mid g (g + 1) w ((((w.setCell ⟨g, p * 2, none⟩ (.int .i64 l[i].y.far)).setCell ⟨g, p * 2 + 1, none⟩ (.slice l[i].z l[i].y.ss.length l[i].c)).setCell ⟨g, i * 2, none⟩ (.int .i64 l[p].y.far)).setCell ⟨g, i * 2 + 1, none⟩ (.slice l[p].z l[p].y.ss.length l[p].c)) :=
    (((Mid.refl _ _ _).setCell (Nat.le_refl _) (by omega) _).setCell (Nat.le_refl _) (by omega) _).setCell (Nat.le_refl _) (by omega) _ |>.setCell (Nat.le_refl _) (by omega) _
  have hb := base_le h.own
  have hlo := h.lo
  have e1 : swapL l p i = (l.set p l[i]).set i l[p] := by simp [swapL, List.getD_eq_getElem?_getD, hp, hi]
  refine ⟨⟨by rw [swapL_len]; exact h.len, hm.cell (.inl (by omega)) h.c0, hm.cell (.inl (by omega)) h.c1, ?_, ?_, hlo, ?_, h.few, fun cur fz e => h.tB cur fz (by rw [← hm.block B (cell_lt h.c0) (.inl (by omega))]; exact e)⟩, hm⟩
  · rw [World.frozen?_setCell, World.frozen?_setCell, World.frozen?_setCell, World.frozen?_setCell]; exact h.f1
  · have h4 := ((((h.own.stored (p * 2) (.int .i64 l[i].y.far)).1.stored (p * 2 + 1) (.slice l[i].z l[i].y.ss.length l[i].c)).1.stored (i * 2) (.int .i64 l[p].y.far)).1.stored (i * 2 + 1) (.slice l[p].z l[p].y.ss.length l[p].c)).1
    rw [e1, itCells_set _ i _ (by simpa using hi), itCells_set _ p _ hp]
    exact h4
  · intro x hx
    rw [swapL_mem l hp hi] at hx
    exact ⟨(h.st x hx).1.mid hm (trail_block h.own), (h.st x hx).2⟩
theorem HpAt.at {w : World} {B base g cap n k : Nat} {l : List It} (h : HpAt w B base (.slice (some ⟨g, 0, none⟩) n cap) n l) (hk : k < l.length) :
    w.cell? ⟨g, k * 2, none⟩ = some (.int .i64 l[k].y.far) ∧ w.cell? ⟨g, k * 2 + 1, none⟩ = some (.slice l[k].z l[k].y.ss.length l[k].c) ∧ (∀ j, w.frozen? ⟨g, j, none⟩ = false) ∧ StRow w l[k].z l[k].y.ss ∧ l[k].y.ss.length ≤ 1000 := by
  obtain ⟨a1, a2⟩ := itCells_at l k hk
  have hl := h.len
  refine ⟨(h.own.cellAt (k * 2) (by omega)).trans a1, (h.own.cellAt (k * 2 + 1) (by omega)).trans a2, fun j => h.own.frozenAt j, ?_⟩
  exact h.st _ (List.getElem_mem hk)
theorem itF_at {l : List It} {k : Nat} (hk : k < l.length) : itF l k = l[k] := by simp [itF, List.getD_eq_getElem?_getD, hk]

theorem leI_trans (a b c : It) (h1 : leI a b) (h2 : leI b c) : leI a c := leW_trans h1 h2
theorem Mid.later {B C : Nat} {a b c : World} (h : Mid B C a b) (k : Below b.heap.size b c) : Mid B C a c := h.trans (Mid.of_below k)
theorem rise_any (B base g cap n i : Nat) (l : List It) (w : World) (h : HpAt w B base (.slice (some ⟨g, 0, none⟩) n cap) n l) (hi : i < n) (hup : HeapUp leI (itF l) n i) :
    Calls Tryz.prog 127 #[.pointer (some ⟨B, 0, none⟩), .int .i64 i] w fun e w' =>
    e = .returned (.tuple #[]) ∧ ∃ l', HpAt w' B base (.slice (some ⟨g, 0, none⟩) n cap) n l' ∧ (∀ x, x ∈ l' ↔ x ∈ l) ∧ HeapOk leI (itF l') n ∧ Mid g (g + 1) w w' := by
  have HH := hide h
  have HU := hide hup
  have hfew := h.few
  clear h hup
  go_enter Tryz.func127, Tryz.ntmps127
  go_wp2_with fail
  go_loopw [1, 4] (fun s1 _ wr => ∃ (k : Nat) (m : List It), s1 = .int .i64 k ∧ k < n ∧ Hid (HpAt wr B base (.slice (some ⟨g, 0, none⟩) n cap) n m) ∧ Hid (∀ x, x ∈ m ↔ x ∈ l) ∧ Hid (HeapUp leI (itF m) n k) ∧ Hid (Mid g (g + 1) w wr)) (fun s1 _ _ => (intOf s1).toNat)
  case atStart => exact ⟨i, l, rfl, hi, HH.out, fun x => Iff.rfl, HU.out, Mid.refl _ _ _⟩
  case round =>
    obtain ⟨k, m, rfl, hk, HHR, HMEM, HUR, HMID⟩ := hrel
    by_cases h0 : k = 0
    · have HF := hide (heapUp_done HUR.out (.inl h0))
      have hc : ¬ 0 < k := by omega
      clear h0
      go_wp2_with fail
      go_end0
      exact ⟨rfl, m, HHR.out, HMEM.out, HF.out, HMID.out⟩
    · have hc : 0 < k := by omega
      obtain ⟨p, hp⟩ : ∃ p, (k - 1) / 2 = p := ⟨_, rfl⟩
      have hpk : p < k := by omega
      have hq : ((k : Int) - 1).tdiv 2 = (p : Int) := by
        rw [Int.tdiv_eq_ediv_of_nonneg (by omega)]
        omega
      have hkm : k < m.length := by rw [HHR.out.len]; exact hk
      have hpm : p < m.length := by omega
      have hki : (k : Int) < (n : Int) := by omega
      have hpi : (p : Int) < (n : Int) := by omega
      have hbl := base_le HHR.out.own
      have hlo := HHR.out.lo
      obtain ⟨r1, r2, fz, hsk⟩ := HHR.out.at hkm
      obtain ⟨r3, r4, _, hsp⟩ := HHR.out.at hpm
      have HSK := hide hsk
      have HSP := hide hsp
      have HUP := hide (show leI m[p] m[k] → HeapOk leI (itF m) n from fun hle => heapUp_done HUR.out (.inr (by rw [hp, itF_at hpm, itF_at hkm]; exact hle)))
      have HUS := hide (show leI m[k] m[p] → HeapUp leI (itF (swapL m p k)) n p from fun hle => by
        rw [swapL_f m hpm hkm (by omega), ← hp]
        exact heapUp_swap leI_trans HUR.out hc hk (by rw [hp, itF_at hpm, itF_at hkm]; exact hle))
      have HMS := hide (fun x => (swapL_mem m hpm hkm x).trans (HMEM.out x))
      have c0 := HHR.out.c0
      have c1 := HHR.out.c1
      clear hsk hsp hp HUR
      generalize hik : m[k] = ik at *
      generalize hip : m[p] = ip at *
      have HIK := hide hik
      have HIP := hide hip
      clear hik hip
      obtain ⟨⟨kf, ks⟩, kz, kc⟩ := ik
      obtain ⟨⟨pf, ps⟩, pz, pc⟩ := ip
      dsimp only at *
      have k0 := cell_regrown c0
      have k1 := cell_regrown c1
      have k2 := cell_regrown r1
      have k3 := cell_regrown r2
      have k4 := cell_regrown r3
      have k5 := cell_regrown r4
      have HOC := hide (ordP_cmp ⟨pf, ps⟩ ⟨kf, ks⟩)
      have HORD := hide (show ∀ d os, _ from order_q pz kz pc kc ⟨pf, ps⟩ ⟨kf, ks⟩ wr HSP.out.2 HSP.out.1.1 HSK.out.1.1)
      generalize ordP ⟨pf, ps⟩ ⟨kf, ks⟩ = oc at *
      go_upto_region 2 with fail
      refine wp_region_quiet_below (by kernel_rfl) (by kernel_rfl) ?_
      repeat (go_big_quiet_step (first | exact HORD.out _ _))
      refine wpQuiet_nil ?_
      intro _ hw'
      obtain ⟨⟨dq, osq⟩, hw''⟩ := hw'
      subst hw''
      have hB2 := below_regrown wr dq osq
      dsimp only
      by_cases hle : oc ≤ 0
      · have HF := hide (HUP.out ((HOC.out.le).1 hle))
        go_wp2_with fail
        exact bodyPost_ret (v := .tuple #[]) (by simp [results, Tryz.results127, go_sem]) rfl ⟨rfl, m, HHR.out.later hB2, HMEM.out, HF.out, HMID.out.later hB2⟩
      · have HUK := hide (HUS.out (leW_of_less ((HOC.out.2).1 (by omega))))
        have HH2 := hide (HHR.out.later hB2)
        have HM2 := hide (HMID.out.later hB2)
        have q1 := k1 dq osq
        have q2 := k2 dq osq
        have q3 := k3 dq osq
        have q4 := k4 dq osq
        have q5 := k5 dq osq
        clear k0 k1 k2 k3 k4 k5 c0 c1 r1 r2 r3 r4 hB2 fz
        have fz : ∀ j, (grow (redrawn wr dq) osq).frozen? ⟨g, j, none⟩ = false := fun j => HH2.out.own.frozenAt j
        have hsw := HH2.out.swap hpm hkm
        rw [HIK.out, HIP.out] at hsw
        dsimp only at hsw
        have HSW := hide hsw
        clear hsw
        go_upto_region 3 with fail
        generalize grow (redrawn wr dq) osq = w2 at *
        have z1 := fz (p * 2)
        have z2 := fz (p * 2 + 1)
        have z3 := fz (k * 2)
        have z4 := fz (k * 2 + 1)
        go_region
        all_goals
          go_wp2_with fail
          go_roundw
          case rel => exact ⟨p, swapL m p k, rfl, by omega, HSW.out.1.later ((Below.refl _ _).drew), HMS.out, HUK.out, (HM2.out.trans HSW.out.2).later ((Below.refl _ _).drew)⟩
          case measure => simp [intOf]; omega
end Go.Proofs.YtijdigdcmjdooaaGreat

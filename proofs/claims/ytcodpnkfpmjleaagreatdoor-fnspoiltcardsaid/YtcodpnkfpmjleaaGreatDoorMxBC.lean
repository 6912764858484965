/- A track that is spoilt: rows in memory and how they turn. Own work. -/
import Derived.Test.YtcodpnkfpmjleaaGreatDoorDwZ
import Derived.Test.YtcodpnkfpmjleaaGreatDoorDwN
import Derived.Test.YtcodpnkfpmjleaaGreatDoorMxAK
namespace Go.Proofs.YtcodpnkfpmjleaaGreatDoor
open Go.RowKit
set_option maxHeartbeats 4000000

/-! ### Rows -/
theorem flat_set {α : Type} (F : α → List Value) (m : Nat) (hF : ∀ x, (F x).length = m) : ∀ (l : List α) (k : Nat) (hk : k < l.length) (f : Nat) (_ : f < m) (x : α) (u : Value), F x = (F l[k]).set f u → (l.flatMap F).set (k * m + f) u = (l.set k x).flatMap F
  | [], k, hk, _, _, _, _, _ => by simp at hk
  | a :: l, 0, hk, f, hf, x, u, h => by
    have h1 := hF a
    rw [List.flatMap_cons, List.set_cons_zero, List.flatMap_cons, Nat.zero_mul, Nat.zero_add, List.set_append_left _ _ (by omega), h]
    rfl
  | a :: l, k + 1, hk, f, hf, x, u, h => by
    have h1 := hF a
    have h2 := flat_set F m hF l k (by simpa using hk) f hf x u (by simpa using h)
    have e : (k + 1) * m + f = m + (k * m + f) := by rw [Nat.add_mul]; omega
    rw [List.flatMap_cons, List.set_cons_succ, List.flatMap_cons, e, List.set_append_right _ _ (by omega), h1, Nat.add_sub_cancel_left, h2]
def pcRow (p : Pc) : List Value := [.string p.name, .int .i64 p.len, .int .i64 p.speed, .int .i64 p.brake]
def jtRow (t : Jr) : List Value := [.int .i64 t.jt.kind, .string t.jt.name, .slice t.ad t.jt.ends.length t.cap]
theorem set_eqZ {α : Type} : ∀ {l : List α} {i : Nat} {x : α}, l[i]? = some x → l.set i x = l
  | [], _, _, _ => rfl
  | y :: l, 0, x, h => by
    have : y = x := by simpa using h
    rw [this]; rfl
  | y :: l, i + 1, x, h => by
    rw [List.set_cons_succ, set_eqZ (by simpa using h)]
theorem pcCells_set (ps : List Pc) (k : Nat) (hk : k < ps.length) (f : Nat) (hf : f < 4) (p : Pc) (u : Value) (h : pcRow p = (pcRow ps[k]).set f u) : (pcCells ps).set (k * 4 + f) u = pcCells (ps.set k p) :=
  flat_set pcRow 4 (fun _ => rfl) ps k hk f hf p u h
theorem jtCells_set (js : List Jr) (k : Nat) (hk : k < js.length) (f : Nat) (hf : f < 3) (t : Jr) (u : Value) (h : jtRow t = (jtRow js[k]).set f u) : (jtCells js).set (k * 3 + f) u = jtCells (js.set k t) :=
  flat_set jtRow 3 (fun _ => rfl) js k hk f hf t u h
theorem apart_set {js : List Jr} {k : Nat} {t : Jr} (h : js.Pairwise fun s t => ∀ x, s.ad = some x → t.ad ≠ some x) (ht : ∀ i (hi : i < js.length), i ≠ k → ∀ x, js[i].ad = some x → t.ad ≠ some x) : (js.set k t).Pairwise fun s t => ∀ x, s.ad = some x → t.ad ≠ some x := by
  rw [List.pairwise_iff_getElem] at h ⊢
  intro i j hi hj hij x hx hy
  have hi' : i < js.length := by simpa using hi
  have hj' : j < js.length := by simpa using hj
  by_cases h1 : k = i
  · subst h1
    rw [List.getElem_set_self] at hx
    rw [List.getElem_set_ne (by omega)] at hy
    exact ht j hj' (by omega) x hy hx
  · rw [List.getElem_set_ne h1] at hx
    by_cases h2 : k = j
    · subst h2
      rw [List.getElem_set_self] at hy
      exact ht i hi' (by omega) x hx hy
    · rw [List.getElem_set_ne h2] at hy
      exact h i j hi' hj' hij x hx hy
theorem own_none_or {v v' : Value} {g : Nat} (h : v.ownBlock = none ∨ v.ownBlock ≠ v'.ownBlock) (hg : v'.ownBlock = some g) : v.ownBlock ≠ some g := by
  rcases h with h | h
  · rw [h]; simp
  · rw [hg] at h; exact h
/-- Kind or name of a joint is written, or its ends are let go. -/
theorem KZ.field {w : World} {base g cap : Nat} {js : List Jr} {k : Nat} (h : KZ w base (.slice (some ⟨g, 0, none⟩) js.length cap) js) (hk : k < js.length) (t : Jr) (f : Nat) (hf : f < 3) (u : Value) (hc : jtRow t = (jtRow js[k]).set f u)
    (hte : (t.ad = js[k].ad ∧ t.cap = js[k].cap ∧ t.jt.ends = js[k].jt.ends) ∨ (t.ad = none ∧ t.cap = 0 ∧ t.jt.ends = [])) : KZ (w.setCell ⟨g, k * 3 + f, none⟩ u) base (.slice (some ⟨g, 0, none⟩) js.length cap) (js.set k t) := by
  have hother : ∀ s ∈ js, (w.setCell ⟨g, k * 3 + f, none⟩ u).ownsRow base 75 2 (.slice s.ad s.jt.ends.length s.cap) s.jt.ends.length (endCells s.jt.ends) := fun s hs =>
    ownsRow_setCell_other (h.ends s hs) (a := (⟨g, k * 3 + f, none⟩ : Addr)) (own_none_or (owns_ne (h.ends s hs) h.own (by decide)) rfl) u
  refine ⟨?_, ?_, ?_⟩
  · rw [List.length_set, ← jtCells_set js k hk f hf t u hc]
    exact (h.own.stored _ _).1
  · intro s hs
    rcases List.mem_or_eq_of_mem_set hs with hs | rfl
    · exact hother s hs
    · rcases hte with ⟨e1, e2, e3⟩ | ⟨e1, e2, e3⟩
      · rw [e1, e2, e3]; exact hother _ (List.getElem_mem hk)
      · rw [e1, e2, e3]; exact World.ownsRow_nil _ _ _ _
  · refine apart_set h.apart fun i hi hik x hx => ?_
    rcases hte with ⟨e1, _, _⟩ | ⟨e1, _, _⟩
    · rw [e1]
      have hp := List.pairwise_iff_getElem.1 h.apart
      rcases Nat.lt_or_gt_of_ne hik with hl | hl
      · exact hp i k hi hk hl x hx
      · intro hy
        exact hp k i hk hi hl x hy hx
    · rw [e1]; simp
theorem own_form {w : World} {base : Nat} {e : TypeId} {n m cap : Nat} {z : Option Addr} {x : Addr} {xs : List Value} (h : w.ownsRow base e n (.slice z m cap) m xs) (hz : z = some x) : x = ⟨x.block, 0, none⟩ := by
  subst hz
  rcases h.2 with ⟨h', _⟩ | ⟨g, cap', cur, h', _⟩
  · simp at h'
  · injection h' with h1
    injection h1 with h1
    rw [h1]
/-- Two joints' ends lie in two blocks. -/
theorem KZ.ne {w : World} {base : Nat} {jv : Value} {js : List Jr} (h : KZ w base jv js) {i k : Nat} (hi : i < js.length) (hk : k < js.length) (hik : i ≠ k) : (Value.slice js[i].ad js[i].jt.ends.length js[i].cap).ownBlock = none ∨ (Value.slice js[i].ad js[i].jt.ends.length js[i].cap).ownBlock ≠ (Value.slice js[k].ad js[k].jt.ends.length js[k].cap).ownBlock := by
  have hp := List.pairwise_iff_getElem.1 h.apart
  cases e : js[i].ad with
  | none => exact .inl rfl
  | some x =>
    refine .inr ?_
    cases e2 : js[k].ad with
    | none => intro h'; cases h'
    | some y =>
      intro h'
      have hxy : x.block = y.block := by simpa [Value.ownBlock] using h'
      have fx := own_form (h.ends _ (List.getElem_mem hi)) e
      have fy := own_form (h.ends _ (List.getElem_mem hk)) e2
      have : x = y := by rw [fx, fy, hxy]
      subst this
      rcases Nat.lt_or_gt_of_ne hik with hl | hl
      · exact hp i k hi hk hl x e e2
      · exact hp k i hk hi hl x e2 e
/-- A joint's ends have grown by one. -/
theorem KZ.more {w w7 : World} {base g cap g2 cp2 : Nat} {js : List Jr} {k : Nat} {e : Int × Int} (h : KZ w base (.slice (some ⟨g, 0, none⟩) js.length cap) js) (hk : k < js.length)
    (hown : w7.ownsRow base 75 2 (.slice (some ⟨g2, 0, none⟩) (js[k].jt.ends.length + 1) cp2) (js[k].jt.ends.length + 1) (endCells js[k].jt.ends ++ [.int .i64 e.1, .int .i64 e.2]))
    (hg : w.grownBy w7 (Value.slice js[k].ad js[k].jt.ends.length js[k].cap).ownBlock) (hgg : (Value.slice js[k].ad js[k].jt.ends.length js[k].cap).ownBlock = some g2 ∨ w.heap.size ≤ g2) :
    KZ (w7.setCell ⟨g, k * 3 + 2, none⟩ (.slice (some ⟨g2, 0, none⟩) (js[k].jt.ends.length + 1) cp2)) base (.slice (some ⟨g, 0, none⟩) js.length cap) (js.set k ⟨⟨js[k].jt.kind, js[k].jt.name, js[k].jt.ends ++ [e]⟩, some ⟨g2, 0, none⟩, cp2⟩) := by
  have hJ7 := owns_kept h.own (h.ends _ (List.getElem_mem hk)) (by decide) hg
  refine ⟨?_, ?_, ?_⟩
  · rw [List.length_set, ← jtCells_set js k hk 2 (by omega) ⟨⟨js[k].jt.kind, js[k].jt.name, js[k].jt.ends ++ [e]⟩, some ⟨g2, 0, none⟩, cp2⟩ (.slice (some ⟨g2, 0, none⟩) (js[k].jt.ends.length + 1) cp2) (by simp [jtRow])]
    exact (hJ7.stored _ _).1
  · intro s hs
    obtain ⟨i, hi, rfl⟩ := List.getElem_of_mem hs
    have hi' : i < js.length := by simpa using hi
    by_cases hik : k = i
    · subst hik
      rw [List.getElem_set_self]
      dsimp only
      rw [List.length_append, endCells_add1]
      exact ownsRow_setCell_other hown (a := (⟨g, k * 3 + 2, none⟩ : Addr)) (own_none_or (owns_ne hown hJ7 (by decide)) rfl) _
    · rw [List.getElem_set_ne hik]
      have h8 := (h.ends _ (List.getElem_mem hi')).kept hg (h.ne hi' hk (by omega))
      exact ownsRow_setCell_other h8 (a := (⟨g, k * 3 + 2, none⟩ : Addr)) (own_none_or (owns_ne h8 hJ7 (by decide)) rfl) _
  · refine apart_set h.apart fun i hi hik x hx hy => ?_
    obtain rfl : (⟨g2, 0, none⟩ : Addr) = x := by simpa using hy
    rcases hgg with hgg | hgg
    · rcases h.ne hi hk hik with h' | h'
      · rw [own_ad hx] at h'; cases h'
      · exact h' (by rw [own_ad hx, hgg])
    · have := h.low.2 _ (List.getElem_mem hi) _ hx
      dsimp only at this
      omega
/-- One end of a joint is written. -/
theorem KZ.endPut {w : World} {base eb : Nat} {jv : Value} {js : List Jr} {k x : Nat} (h : KZ w base jv js) (hk : k < js.length) (hx : x < js[k].jt.ends.length) (he : js[k].ad = some ⟨eb, 0, none⟩) (y z : Int) :
    KZ ((w.setCell ⟨eb, x * 2, none⟩ (.int .i64 y)).setCell ⟨eb, x * 2 + 1, none⟩ (.int .i64 z)) base jv (js.set k ⟨⟨js[k].jt.kind, js[k].jt.name, js[k].jt.ends.set x (y, z)⟩, js[k].ad, js[k].cap⟩) := by
  have hE := h.ends _ (List.getElem_mem hk)
  have hob := own_ad (n := js[k].jt.ends.length) he
  refine ⟨?_, ?_, ?_⟩
  · have hrow : jtCells (js.set k ⟨⟨js[k].jt.kind, js[k].jt.name, js[k].jt.ends.set x (y, z)⟩, js[k].ad, js[k].cap⟩) = jtCells js := by
      have := jtCells_set js k hk 0 (by omega) ⟨⟨js[k].jt.kind, js[k].jt.name, js[k].jt.ends.set x (y, z)⟩, js[k].ad, js[k].cap⟩ (.int .i64 js[k].jt.kind) (by simp [jtRow])
      rw [← this]
      exact set_eqZ (by rw [Nat.add_zero]; exact (jtCells_at js k hk).1)
    rw [hrow, List.length_set]
    have hn := own_none_or (owns_ne h.own hE (by decide)) hob
    exact ownsRow_setCell_other (ownsRow_setCell_other h.own (a := (⟨eb, x * 2, none⟩ : Addr)) hn _) (a := (⟨eb, x * 2 + 1, none⟩ : Addr)) hn _
  · intro s hs
    obtain ⟨i, hi, rfl⟩ := List.getElem_of_mem hs
    have hi' : i < js.length := by simpa using hi
    by_cases hik : k = i
    · subst hik
      rw [List.getElem_set_self]
      dsimp only
      rw [List.length_set]
      rw [he] at hE ⊢
      exact ends_put hE hx y z
    · rw [List.getElem_set_ne hik]
      have h8 := h.ends _ (List.getElem_mem hi')
      have hn := own_none_or (h.ne hi' hk (by omega)) hob
      exact ownsRow_setCell_other (ownsRow_setCell_other h8 (a := (⟨eb, x * 2, none⟩ : Addr)) hn _) (a := (⟨eb, x * 2 + 1, none⟩ : Addr)) hn _
  · refine apart_set h.apart fun i hi hik x hx => ?_
    have hp := List.pairwise_iff_getElem.1 h.apart
    dsimp only
    rcases Nat.lt_or_gt_of_ne hik with hl | hl
    · exact hp i k hi hk hl x hx
    · intro hy
      exact hp k i hk hi hl x hy hx
/-! ### Boxes -/
/-- The reader, the track's box, the answer's box. -/
structure SB (w wr : World) (b : Nat) (a : Option Addr) (n cap : Nat) (c : Cu) (bn br : Nat) (pv jv : Value) : Prop where
  cur : CurAt wr b a n cap c
  n0 : wr.cell? ⟨bn, 0, none⟩ = some pv
  n1 : wr.cell? ⟨bn, 1, none⟩ = some jv
  nf : ∀ o, wr.frozen? ⟨bn, o, none⟩ = false
  r0 : wr.cell? ⟨br, 0, none⟩ = some (.slice none 0 0)
  r1 : wr.cell? ⟨br, 1, none⟩ = some (.slice none 0 0)
  rf : ∀ o, wr.frozen? ⟨br, o, none⟩ = false
  mid : Mid b (b + 1) w wr
  nb : w.heap.size ≤ bn
  rb : w.heap.size ≤ br
  nr : bn ≠ br
  bw : b < w.heap.size
section
variable {w wr w2 : World} {b n cap bn br : Nat} {a : Option Addr} {c c' : Cu} {pv jv : Value}
theorem SB.of_blocks (h : SB w wr b a n cap c bn br pv jv) (hc : CurAt w2 b a n cap c') (hbn : w2.heap[bn]? = wr.heap[bn]?) (hbr : w2.heap[br]? = wr.heap[br]?) (hm : Mid b (b + 1) w w2) : SB w w2 b a n cap c' bn br pv jv where
  cur := hc
  n0 := (World.cell?_of_block (a := ⟨bn, 0, none⟩) hbn).trans h.n0
  n1 := (World.cell?_of_block (a := ⟨bn, 1, none⟩) hbn).trans h.n1
  nf := fun o => (World.frozen?_of_block (a := ⟨bn, o, none⟩) hbn).trans (h.nf o)
  r0 := (World.cell?_of_block (a := ⟨br, 0, none⟩) hbr).trans h.r0
  r1 := (World.cell?_of_block (a := ⟨br, 1, none⟩) hbr).trans h.r1
  rf := fun o => (World.frozen?_of_block (a := ⟨br, o, none⟩) hbr).trans (h.rf o)
  mid := hm
  nb := h.nb
  rb := h.rb
  nr := h.nr
  bw := h.bw
theorem SB.later (h : SB w wr b a n cap c bn br pv jv) (hb : Below wr.heap.size wr w2) : SB w w2 b a n cap c bn br pv jv :=
  h.of_blocks (h.cur.later hb) (hb.block bn (cell_lt h.n0)) (hb.block br (cell_lt h.r0)) (h.mid.trans (Mid.of_below hb))
theorem SB.call (h : SB w wr b a n cap c bn br pv jv) (hc : CurAt w2 b a n cap c') (hm : Mid b (b + 1) wr w2) : SB w w2 b a n cap c' bn br pv jv := by
  have h1 := h.nb
  have h2 := h.rb
  have h3 := h.bw
  exact h.of_blocks hc (hm.block bn (cell_lt h.n0) (.inr (by omega))) (hm.block br (cell_lt h.r0) (.inr (by omega))) (h.mid.trans hm)
theorem SB.grown {row : Option Nat} (h : SB w wr b a n cap c bn br pv jv) (hg : wr.grownBy w2 row) (hrow : ∀ g, row = some g → bn < g ∧ br < g) : SB w w2 b a n cap c bn br pv jv := by
  have h1 := h.nb
  have h2 := h.rb
  have h3 := h.bw
  have hne : ∀ B, (B ≤ bn ∨ B ≤ br) → some B ≠ row := fun B hB e => by have := hrow B e.symm; omega
  refine h.of_blocks ⟨hg.cell h.cur.c0 (hne b (by omega)), hg.cell h.cur.c1 (hne b (by omega)), hg.cell h.cur.c2 (hne b (by omega)), ?_, ?_⟩ (hg.block bn (cell_lt h.n0) (hne bn (by omega))) (hg.block br (cell_lt h.r0) (hne br (by omega))) (h.mid.grown hg (fun g e => by have := hrow g e; omega))
  · rw [hg.frozen_far ⟨b, 1, none⟩ (cell_lt h.cur.c1) (hne b (by omega))]; exact h.cur.f1
  · rw [hg.frozen_far ⟨b, 2, none⟩ (cell_lt h.cur.c2) (hne b (by omega))]; exact h.cur.f2
theorem SB.setHi (h : SB w wr b a n cap c bn br pv jv) {g o : Nat} (hg : bn < g ∧ br < g) (v : Value) : SB w (wr.setCell ⟨g, o, none⟩ v) b a n cap c bn br pv jv := by
  have h1 := h.nb
  have h3 := h.bw
  exact h.of_blocks (h.cur.setFar (by omega) v) (heap_setCell_other wr ⟨g, o, none⟩ bn v (by show bn ≠ g; omega)) (heap_setCell_other wr ⟨g, o, none⟩ br v (by show br ≠ g; omega)) (h.mid.setNew (by omega) v)
theorem SB.set0 (h : SB w wr b a n cap c bn br pv jv) (v : Value) : SB w (wr.setCell ⟨bn, 0, none⟩ v) b a n cap c bn br v jv := by
  have h1 := h.nb
  have h3 := h.bw
  have h4 := h.nr
  have hr := heap_setCell_other wr ⟨bn, 0, none⟩ br v (by show br ≠ bn; omega)
  exact ⟨h.cur.setFar (by omega) v, by have := h.n0; simp [go_sem, this], by have := h.n1; simp [go_sem, this], fun o => by rw [World.frozen?_setCell]; exact h.nf o, (World.cell?_of_block (a := ⟨br, 0, none⟩) hr).trans h.r0, (World.cell?_of_block (a := ⟨br, 1, none⟩) hr).trans h.r1, fun o => by rw [World.frozen?_setCell]; exact h.rf o, h.mid.setNew h1 v, h1, h.rb, h4, h3⟩
theorem SB.set1 (h : SB w wr b a n cap c bn br pv jv) (v : Value) : SB w (wr.setCell ⟨bn, 1, none⟩ v) b a n cap c bn br pv v := by
  have h1 := h.nb
  have h3 := h.bw
  have h4 := h.nr
  have hr := heap_setCell_other wr ⟨bn, 1, none⟩ br v (by show br ≠ bn; omega)
  exact ⟨h.cur.setFar (by omega) v, by have := h.n0; simp [go_sem, this], by have := h.n1; simp [go_sem, this], fun o => by rw [World.frozen?_setCell]; exact h.nf o, (World.cell?_of_block (a := ⟨br, 0, none⟩) hr).trans h.r0, (World.cell?_of_block (a := ⟨br, 1, none⟩) hr).trans h.r1, fun o => by rw [World.frozen?_setCell]; exact h.rf o, h.mid.setNew h1 v, h1, h.rb, h4, h3⟩
end
/-! ### How great a spoilt track is -/
structure Sm (N : Nt) (u : Nat) : Prop where
  pcs : N.pcs.length ≤ 9 + 102 * u
  jts : N.jts.length ≤ 18 + 102 * u
  pn : ∀ p ∈ N.pcs, p.name.size ≤ 30
  jn : ∀ j ∈ N.jts, j.name.size ≤ 30 ∧ j.ends.length ≤ 18 + u
theorem Sm.up {N : Nt} {u : Nat} (h : Sm N u) : Sm N (u + 1) := ⟨by have := h.pcs; omega, by have := h.jts; omega, h.pn, fun j hj => by have := h.jn j hj; omega⟩
theorem NetBd.sm {N : Nt} (h : NetBd N) : Sm N 0 := ⟨by have := h.few; omega, by have := h.joints; omega, fun p hp => by have := h.names p hp; omega, fun j hj => by have := h.jends j hj; omega⟩
/-- What a spoiler answers. -/
def SpoilPost (b : Nat) (a : Option Addr) (n cap u : Nat) (c : Cu) (w : World) (e : Ending) (w' : World) : Prop :=
  ∃ (pa ja : Option Addr) (pcap jcap : Nat) (N : Nt) (c' : Cu), e = .returned (.agg #[.slice pa N.pcs.length pcap, .slice ja N.jts.length jcap]) ∧ NetIn w w' pa ja N ∧ Sm N u ∧ Mid b (b + 1) w w' ∧ c'.at' ≤ c.at' + 1000 ∧ CurAt w' b a n cap c'
theorem zIn_of {w w' : World} {base : Nat} {pa ja : Option Addr} {pcap jcap : Nat} {ps : List Pc} {js : List Jr} (hw : w.heap.size ≤ base) (hp : w'.ownsRow base 63 4 (.slice pa ps.length pcap) ps.length (pcCells ps)) (hj : KZ w' base (.slice ja js.length jcap) js) : NetIn w w' pa ja ⟨ps, js.map (·.jt)⟩ := by
  intro w2 hk
  have hk' : ∀ k, base ≤ k → k < w'.heap.size → w2.heap[k]? = w'.heap[k]? := fun k h1 h2 => hk k (by omega) h2
  obtain ⟨pa', pcap', e1, hPA⟩ := pcs_at_of (owns_blocks hp hk')
  obtain ⟨ja', jcap', e2, hJA⟩ := zjts_at_of (hj.blocks hk')
  obtain ⟨rfl, rfl⟩ : pa = pa' ∧ pcap = pcap' := by simpa using e1
  obtain ⟨rfl, rfl⟩ : ja = ja' ∧ jcap = jcap' := by simpa using e2
  exact ⟨hPA, hJA⟩
theorem netIn_take {w w' : World} {pa ja : Option Addr} {N : Nt} (h : NetIn w w' pa ja N) (m : Nat) : NetIn w w' pa ja ⟨N.pcs, N.jts.take m⟩ := by
  intro w2 hk
  obtain ⟨h1, h2⟩ := h w2 hk
  refine ⟨h1, fun k hk => ?_⟩
  have hk' : k < N.jts.length := by have := hk; simp at this; omega
  simpa using h2 k hk'
end Go.Proofs.YtcodpnkfpmjleaaGreatDoor

/- The spoiler: what its walk leans on. Own work. -/
namespace Go.Proofs.YtcodpnkfpmjleaaGreatDoor
open Go.RowKit
set_option maxHeartbeats 4000000

theorem Sm.take {ps : List Pc} {js : List Jt} {u : Nat} (h : Sm ⟨ps, js⟩ u) (m : Nat) : Sm ⟨ps, js.take m⟩ u :=
  ⟨h.pcs, by have := h.jts; simp only [List.length_take]; dsimp only at this; omega, h.pn, fun j hj => h.jn j (List.mem_of_mem_take hj)⟩
theorem spoil_end {w wr : World} {b n cap pcap jcap jcap0 m u : Nat} {a pa ja : Option Addr} {c c' : Cu} {ps : List Pc} {js : List Jr} (hS : SB w wr b a n cap c' w.heap.size (w.heap.size + 1) (.slice pa ps.length pcap) (.slice ja m jcap)) (hP : wr.ownsRow (w.heap.size + 2) 63 4 (.slice pa ps.length pcap) ps.length (pcCells ps)) (hK : KZ wr (w.heap.size + 2) (.slice ja js.length jcap0) js) (hm : m ≤ js.length) (hSm : Sm ⟨ps, js.map (·.jt)⟩ u) (hat : c'.at' ≤ c.at' + 1000) :
    SpoilPost b a n cap u c w (.returned (.agg #[.slice pa ps.length pcap, .slice ja m jcap])) ((wr.setCell ⟨w.heap.size + 1, 0, none⟩ (.slice pa ps.length pcap)).setCell ⟨w.heap.size + 1, 1, none⟩ (.slice ja m jcap)) := by
  have hbw := hS.bw
  have hP2 := ownsRow_setCell_below (ownsRow_setCell_below hP (a := (⟨w.heap.size + 1, 0, none⟩ : Addr)) (by show w.heap.size + 1 < w.heap.size + 2; omega) (.slice pa ps.length pcap)) (a := (⟨w.heap.size + 1, 1, none⟩ : Addr)) (by show w.heap.size + 1 < w.heap.size + 2; omega) (.slice ja m jcap)
  have hK2 := (hK.setBelow (B := w.heap.size + 1) (o := 0) (by omega) (.slice pa ps.length pcap)).setBelow (B := w.heap.size + 1) (o := 1) (by omega) (.slice ja m jcap)
  refine ⟨pa, ja, pcap, jcap, ⟨ps, (js.map (·.jt)).take m⟩, c', ?_, netIn_take (zIn_of (by omega) hP2 hK2) m, hSm.take m, (hS.mid.setNew (by omega) _).setNew (by omega) _, hat, (hS.cur.setFar (by omega) _).setFar (by omega) _⟩
  have : ((js.map (·.jt)).take m).length = m := by simp; omega
  dsimp only
  rw [this]
theorem spoil_endL {w wr : World} {b n cap pcap jcap jcap0 np mj m u : Nat} {a pa ja : Option Addr} {c c' : Cu} {ps : List Pc} {js : List Jr} (hS : SB w wr b a n cap c' w.heap.size (w.heap.size + 1) (.slice pa np pcap) (.slice ja m jcap)) (hnp : ps.length = np) (hP : wr.ownsRow (w.heap.size + 2) 63 4 (.slice pa np pcap) np (pcCells ps)) (hmj : js.length = mj) (hK : KZ wr (w.heap.size + 2) (.slice ja mj jcap0) js) (hm : m ≤ mj) (hSm : Sm ⟨ps, js.map (·.jt)⟩ u) (hat : c'.at' ≤ c.at' + 1000) :
    SpoilPost b a n cap u c w (.returned (.agg #[.slice pa np pcap, .slice ja m jcap])) ((wr.setCell ⟨w.heap.size + 1, 0, none⟩ (.slice pa np pcap)).setCell ⟨w.heap.size + 1, 1, none⟩ (.slice ja m jcap)) := by
  subst hnp
  subst hmj
  exact spoil_end hS hP hK hm hSm hat
theorem KZ.setPc {w : World} {base base' g cap n o : Nat} {jv : Value} {js : List Jr} {xs : List Value} (h : KZ w base jv js) (hp : w.ownsRow base' 63 4 (.slice (some ⟨g, 0, none⟩) n cap) n xs) (u : Value) : KZ (w.setCell ⟨g, o, none⟩ u) base jv js :=
  ⟨ownsRow_setCell_other h.own (a := (⟨g, o, none⟩ : Addr)) (own_none_or (owns_ne h.own hp (by decide)) rfl) u, fun t ht => ownsRow_setCell_other (h.ends t ht) (a := (⟨g, o, none⟩ : Addr)) (own_none_or (owns_ne (h.ends t ht) hp (by decide)) rfl) u, h.apart⟩
theorem KZ.keptPc {w w2 : World} {base base' n : Nat} {jv pv : Value} {js : List Jr} {xs : List Value} (h : KZ w base jv js) (hp : w.ownsRow base' 63 4 pv n xs) (hg : w.grownBy w2 pv.ownBlock) : KZ w2 base jv js :=
  ⟨owns_kept h.own hp (by decide) hg, fun t ht => owns_kept (h.ends t ht) hp (by decide) hg, h.apart⟩
theorem pcs_setJ {w : World} {base base' g cap n o : Nat} {pv : Value} {m : Nat} {ys : List Value} {js : List Value} (hp : w.ownsRow base 63 4 pv m ys) (h : w.ownsRow base' 69 3 (.slice (some ⟨g, 0, none⟩) n cap) n js) (u : Value) : (w.setCell ⟨g, o, none⟩ u).ownsRow base 63 4 pv m ys :=
  ownsRow_setCell_other hp (a := (⟨g, o, none⟩ : Addr)) (own_none_or (owns_ne hp h (by decide)) rfl) u
theorem pcs_setE {w : World} {base base' g cap n o : Nat} {pv : Value} {m : Nat} {ys : List Value} {js : List Value} (hp : w.ownsRow base 63 4 pv m ys) (h : w.ownsRow base' 75 2 (.slice (some ⟨g, 0, none⟩) n cap) n js) (u : Value) : (w.setCell ⟨g, o, none⟩ u).ownsRow base 63 4 pv m ys :=
  ownsRow_setCell_other hp (a := (⟨g, o, none⟩ : Addr)) (own_none_or (owns_ne hp h (by decide)) rfl) u
/-- A pick, what it gives left open. -/
theorem sb_pick {w wr : World} {b cap bn br : Nat} {a : Option Addr} {code : List Int} {c : Cu} {pv jv : Value} (m : Nat) (hB : Bys code) (hat : c.at' ≤ 1000000) (hn : code.length ≤ 1048576) (ho : OffB a code.length b) (hx : BytesAt w a code) (hm0 : 0 < m) (hm : m ≤ 1048576) (hS : SB w wr b a code.length cap c bn br pv jv) :
    Calls Tryz.prog 31 #[.pointer (some ⟨b, 0, none⟩), .int .i64 m] wr fun e w' =>
    ∃ (k : Nat) (c' : Cu), k < m ∧ e = .returned (.int .i64 k) ∧ c'.at' ≤ c.at' + 2 ∧ SB w w' b a code.length cap c' bn br pv jv ∧ Mid b (b + 1) wr w' := by
  refine (pick_any b a cap code c m wr hB (by omega) hn ho (by omega) (by omega) hS.cur (hx.mid hS.mid ho)).mono ?_
  rintro e w' ⟨rfl, hc, hm'⟩
  have hp := pickV_bd (code := code) (n := (m : Int)) (by omega) c
  obtain ⟨k, hk⟩ := Int.eq_ofNat_of_zero_le hp.1
  exact ⟨k, pickC code m c, by omega, by rw [hk], pickC_at code m c, hS.call hc hm', hm'⟩
/-- A pick that gives a known number. -/
theorem sb_pickV {w wr : World} {b cap bn br : Nat} {a : Option Addr} {code : List Int} {c : Cu} {pv jv : Value} (m k : Nat) (hB : Bys code) (hat : c.at' ≤ 1000000) (hn : code.length ≤ 1048576) (ho : OffB a code.length b) (hx : BytesAt w a code) (hm0 : 0 < m) (hm : m ≤ 1048576) (hk : pickV code m c = (k : Int)) (hS : SB w wr b a code.length cap c bn br pv jv) :
    Calls Tryz.prog 31 #[.pointer (some ⟨b, 0, none⟩), .int .i64 m] wr fun e w' =>
    ∃ (c' : Cu), e = .returned (.int .i64 k) ∧ c'.at' ≤ c.at' + 2 ∧ SB w w' b a code.length cap c' bn br pv jv ∧ Mid b (b + 1) wr w' := by
  refine (pick_any b a cap code c m wr hB (by omega) hn ho (by omega) (by omega) hS.cur (hx.mid hS.mid ho)).mono ?_
  rintro e w' ⟨rfl, hc, hm'⟩
  exact ⟨pickC code m c, by rw [hk], pickC_at code m c, hS.call hc hm', hm'⟩
theorem sb_pickI {w wr : World} {b cap bn br : Nat} {a : Option Addr} {code : List Int} {c : Cu} {pv jv : Value} (m : Nat) (mi : Int) (hmi : mi = (m : Int)) (hB : Bys code) (hat : c.at' ≤ 1000000) (hn : code.length ≤ 1048576) (ho : OffB a code.length b) (hx : BytesAt w a code) (hm0 : 0 < m) (hm : m ≤ 1048576) (hS : SB w wr b a code.length cap c bn br pv jv) :
    Calls Tryz.prog 31 #[.pointer (some ⟨b, 0, none⟩), .int .i64 mi] wr fun e w' =>
    ∃ (k : Nat) (c' : Cu), k < m ∧ e = .returned (.int .i64 k) ∧ c'.at' ≤ c.at' + 2 ∧ SB w w' b a code.length cap c' bn br pv jv ∧ Mid b (b + 1) wr w' := by
  subst hmi
  exact sb_pick m hB hat hn ho hx hm0 hm hS
theorem owns_new {w : World} {base n : Nat} {T : TypeId} {size : Nat} {cs : Array Value} (hb : base ≤ w.heap.size) (hs : cs.size = n * size) (hn : n ≤ maxLen) : (w.alloc (.cells cs T)).ownsRow base T size (.slice (some ⟨w.heap.size, 0, none⟩) n n) n cs.toList := by
  refine ⟨by rw [Array.length_toList]; exact hs, .inr ⟨w.heap.size, n, cs, rfl, hb, ?_, Nat.le_refl _, hn, hs, ?_⟩⟩
  · show (w.heap.push (.cells cs T))[w.heap.size]? = _
    rw [Array.getElem?_push_size]
  · rw [← hs, ← Array.length_toList, List.take_length]
theorem sb_new {w : World} {b n cap : Nat} {a pa ja : Option Addr} {c : Cu} {np nj pcap jcap : Nat} (hc : CurAt w b a n cap c) : SB w ((w.alloc (.cells #[.slice pa np pcap, .slice ja nj jcap] 26)).alloc (.cells #[.slice none 0 0, .slice none 0 0] 26)) b a n cap c w.heap.size (w.heap.size + 1) (.slice pa np pcap) (.slice ja nj jcap) := by
  have hb := cell_lt hc.c0
  have hA : Below w.heap.size w ((w.alloc (.cells #[.slice pa np pcap, .slice ja nj jcap] 26)).alloc (.cells #[.slice none 0 0, .slice none 0 0] 26)) := ((Below.refl _ _).alloc (Nat.le_refl _) _).alloc (by simp) _
  exact ⟨hc.later hA, by simp [go_sem], by simp [go_sem], fun o => by simp [go_sem], by simp [go_sem], by simp [go_sem], fun o => by simp [go_sem], Mid.of_below hA, Nat.le_refl _, by omega, by omega, hb⟩
theorem Sm.piece {ps : List Pc} {js : List Jt} {u k : Nat} {p : Pc} (h : Sm ⟨ps, js⟩ u) (hp : p.name.size ≤ 30) : Sm ⟨ps.set k p, js⟩ u :=
  ⟨by rw [List.length_set]; exact h.pcs, h.jts, fun q hq => by rcases List.mem_or_eq_of_mem_set hq with hq | rfl; exact h.pn q hq; exact hp, h.jn⟩
theorem Sm.joint {ps : List Pc} {js : List Jr} {u k : Nat} {t : Jr} (h : Sm ⟨ps, js.map (·.jt)⟩ u) (ht : t.jt.name.size ≤ 30 ∧ t.jt.ends.length ≤ 18 + u) : Sm ⟨ps, (js.set k t).map (·.jt)⟩ u :=
  ⟨h.pcs, by rw [List.length_map, List.length_set]; have := h.jts; rw [List.length_map] at this; exact this, h.pn, fun j hj => by
    obtain ⟨s, hs, rfl⟩ := List.mem_map.1 hj
    rcases List.mem_or_eq_of_mem_set hs with hs | rfl
    · exact h.jn _ (List.mem_map.2 ⟨s, hs, rfl⟩)
    · exact ht⟩
theorem Sm.noPieces {ps : List Pc} {js : List Jt} {u : Nat} (h : Sm ⟨ps, js⟩ u) : Sm ⟨[], js⟩ u := ⟨by simp, h.jts, by simp, h.jn⟩
theorem Sm.add {ps : List Pc} {js : List Jr} {u : Nat} {p : Pc} (h : Sm ⟨ps, js.map (·.jt)⟩ u) (hp : p.name.size ≤ 30) (hl : ps.length + 1 ≤ 9 + 102 * u) : Sm ⟨ps ++ [p], js.map (·.jt)⟩ u :=
  ⟨by simpa using hl, h.jts, fun q hq => by rcases List.mem_append.1 hq with hq | hq; exact h.pn q hq; rw [show q = p by simpa using hq]; exact hp, h.jn⟩
theorem Sm.addJ {ps : List Pc} {js : List Jr} {u : Nat} {t : Jr} (h : Sm ⟨ps, js.map (·.jt)⟩ u) (ht : t.jt.name.size ≤ 30 ∧ t.jt.ends.length ≤ 18 + u) (hl : js.length + 1 ≤ 18 + 102 * u) : Sm ⟨ps, (js ++ [t]).map (·.jt)⟩ u :=
  ⟨h.pcs, by simpa using hl, h.pn, fun j hj => by
    obtain ⟨s, hs, rfl⟩ := List.mem_map.1 hj
    rcases List.mem_append.1 hs with hs | hs
    · exact h.jn _ (List.mem_map.2 ⟨s, hs, rfl⟩)
    · rw [show s = t by simpa using hs]; exact ht⟩
theorem tabI {w : World} {cs : Array Value} {T : TypeId} (h : ∀ (p : Nat), p < cs.size → ∃ x, cs[p]? = some (.int .i64 x)) {p : Nat} (hp : p < cs.size) : ∃ x, (w.alloc (.cells cs T)).cell? ⟨w.heap.size, p, none⟩ = some (.int .i64 x) := by
  obtain ⟨x, hx⟩ := h p hp
  exact ⟨x, new_cell w cs T p _ hx⟩
theorem tabS {w : World} {cs : Array Value} {T : TypeId} (h : ∀ (p : Nat), p < cs.size → ∃ x : ByteArray, x.size ≤ 30 ∧ cs[p]? = some (.string x)) {p : Nat} (hp : p < cs.size) : ∃ x : ByteArray, x.size ≤ 30 ∧ (w.alloc (.cells cs T)).cell? ⟨w.heap.size, p, none⟩ = some (.string x) := by
  obtain ⟨x, h1, hx⟩ := h p hp
  exact ⟨x, h1, new_cell w cs T p _ hx⟩
end Go.Proofs.YtcodpnkfpmjleaaGreatDoor

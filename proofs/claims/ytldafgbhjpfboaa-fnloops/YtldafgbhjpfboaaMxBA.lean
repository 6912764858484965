/- spec.l4from: what lies where. Own work. -/
import Derived.Test.YtldafgbhjpfboaaMxAV
import Derived.Test.YtldafgbhjpfboaaMxAW
import Derived.Test.YtldafgbhjpfboaaBeB
import Derived.Test.YtldafgbhjpfboaaMxAT
namespace Go.Proofs.Ytldafgbhjpfboaa
open Go.RowKit Go.Sort
set_option maxHeartbeats 8000000
set_option maxRecDepth 100000

theorem infoCf : (Try.prog.info? 62).map (fun i => (i.zero, i.size, i.bytes)) = some (some (.agg #[.int .i64 0, .int .i64 0, .int .i64 0, .int .i64 0, .slice none 0 0]), 5, 56) := by kernel_rfl
theorem owns_off {w w' : World} {base g : Nat} {e : TypeId} {size : Nat} {v : Value} {n : Nat} {xs : List Value} (h : w.ownsRow base e size v n xs) (hm : Mid g (g + 1) w w') (hne : v.ownBlock ≠ some g) : w'.ownsRow base e size v n xs := by
  refine ⟨h.1, ?_⟩
  rcases h.2 with h' | ⟨g', cap, cur, hv, hbg, hg, rest⟩
  · exact .inl h'
  · refine .inr ⟨g', cap, cur, hv, hbg, ?_, rest⟩
    have hgm : g' ≠ g := fun e => hne (by rw [hv, ← e]; rfl)
    have hlt : g' < w.heap.size := by
      rcases Nat.lt_or_ge g' w.heap.size with h | h
      · exact h
      · rw [Array.getElem?_eq_none h] at hg; cases hg
    rw [hm.block g' hlt (by omega)]
    exact hg
theorem owns_type {w : World} {base g : Nat} {e e' : TypeId} {size : Nat} {v : Value} {n : Nat} {xs : List Value} (h : w.ownsRow base e size v n xs) (hv : v.ownBlock = some g) (hne : e ≠ e') : ∀ cur fz, w.heap[g]? ≠ some (.cells cur e' fz) := by
  intro cur fz hc
  rcases h.2 with ⟨h', _⟩ | ⟨g', cap, cur', hv', _, hg, _⟩
  · rw [h'] at hv; cases hv
  · rw [hv'] at hv
    have : g' = g := by simpa [Value.ownBlock] using hv
    subst this
    rw [hg] at hc
    simp at hc
    exact hne hc.2.1
/-- Where all lies while ways are sought. -/
structure FrI (w wr : World) (v0 v1 : Value) (n2 bB kB : Nat) (bl : List Cf) (kl : List Bool) (lv : Value) (line : List Cf) (nv : Value) (nx : List Cf) : Prop where
  n0 : wr.cell? ⟨w.heap.size, 0, none⟩ = some v0
  n1 : wr.cell? ⟨w.heap.size, 1, none⟩ = some v1
  below : Below w.heap.size w wr
  ob : wr.ownsRow (w.heap.size + 2) 62 5 (.slice (some ⟨bB, 0, none⟩) n2 n2) n2 (cfCells bl)
  ok : wr.ownsRow (w.heap.size + 2) 4 1 (.slice (some ⟨kB, 0, none⟩) n2 n2) n2 (kl.map .bool)
  ol : wr.ownsRow (w.heap.size + 2) 62 5 lv line.length (cfCells line)
  on : wr.ownsRow (w.heap.size + 2) 62 5 nv nx.length (cfCells nx)
  d1 : lv.ownBlock ≠ some bB
  d2 : nv.ownBlock ≠ some bB
  d3 : ∀ g, nv.ownBlock = some g → lv.ownBlock ≠ some g
  rs : ∀ i, i ∈ bl ∨ i ∈ line ∨ i ∈ nx → StRow wr i.z i.y.ss
section
variable {w wr wr' : World} {v0 v1 lv nv : Value} {n2 bB kB : Nat} {bl line nx : List Cf} {kl : List Bool}
theorem FrI.later (h : FrI w wr v0 v1 n2 bB kB bl kl lv line nv nx) (hb : Below wr.heap.size wr wr') : FrI w wr' v0 v1 n2 bB kB bl kl lv line nv nx :=
  ⟨cell_later' hb h.n0, cell_later' hb h.n1, h.below.trans (hb.mono h.below.size), owns_later' h.ob hb, owns_later' h.ok hb, owns_later' h.ol hb, owns_later' h.on hb, h.d1, h.d2, h.d3, fun i hi => (h.rs i hi).later hb⟩
theorem FrI.len (h : FrI w wr v0 v1 n2 bB kB bl kl lv line nv nx) : bl.length = n2 ∧ kl.length = n2 := by
  have h1 := h.ob.1
  have h2 := h.ok.1
  rw [cfCells_len] at h1
  rw [List.length_map] at h2
  omega
theorem FrI.neK (h : FrI w wr v0 v1 n2 bB kB bl kl lv line nv nx) : kB ≠ bB := by
  rcases owns_ne h.ok h.ob (by decide) with h' | h'
  · simp [Value.ownBlock] at h'
  · exact fun e => h' (by rw [e])
theorem FrI.neK' (h : FrI w wr v0 v1 n2 bB kB bl kl lv line nv nx) : lv.ownBlock ≠ some kB ∧ nv.ownBlock ≠ some kB := by
  constructor
  · rcases owns_ne h.ol h.ok (by decide) with h' | h'
    · rw [h']; simp
    · exact h'
  · rcases owns_ne h.on h.ok (by decide) with h' | h'
    · rw [h']; simp
    · exact h'
theorem FrI.lo (h : FrI w wr v0 v1 n2 bB kB bl kl lv line nv nx) : w.heap.size + 2 ≤ bB ∧ w.heap.size + 2 ≤ kB ∧ bB < wr.heap.size ∧ kB < wr.heap.size := ⟨(h.ob.lt bB rfl).1, (h.ok.lt kB rfl).1, (h.ob.lt bB rfl).2, (h.ok.lt kB rfl).2⟩
/-- A step's mark. -/
theorem FrI.mark (h : FrI w wr v0 v1 n2 bB kB bl kl lv line nv nx) (p : Nat) (b : Bool) : FrI w (wr.setCell ⟨kB, p, none⟩ (.bool b)) v0 v1 n2 bB kB bl (kl.set p b) lv line nv nx := by
  have hm : Mid kB (kB + 1) wr (wr.setCell ⟨kB, p, none⟩ (.bool b)) := Mid.set1 _
  obtain ⟨l1, l2, _, _⟩ := h.lo
  have hne := h.neK
  have h' := h.neK'
  refine ⟨hm.cell (by omega) h.n0, hm.cell (by omega) h.n1, h.below.trans ((hm.below (by omega)).mono (by omega)), owns_off h.ob hm (show some bB ≠ some kB from fun e => hne (Option.some.inj e).symm), ?_, owns_off h.ol hm h'.1, owns_off h.on hm h'.2, h.d1, h.d2, h.d3, fun i hi => (h.rs i hi).mid hm (owns_type h.ok rfl (by decide))⟩
  have hs := (h.ok.stored p (.bool b)).1
  rw [List.map_set]
  exact hs
/-- What is best now. -/
theorem FrI.put (h : FrI w wr v0 v1 n2 bB kB bl kl lv line nv nx) (p : Nat) (hp : p < n2) (x : Cf) (hx : StRow wr x.z x.y.ss) :
    FrI w (((((wr.setCell ⟨bB, p * 5, none⟩ (.int .i64 (lastS x.y).1)).setCell ⟨bB, p * 5 + 1, none⟩ (.int .i64 x.a)).setCell ⟨bB, p * 5 + 2, none⟩ (.int .i64 (lastS x.y).2)).setCell ⟨bB, p * 5 + 3, none⟩ (.int .i64 x.y.far)).setCell ⟨bB, p * 5 + 4, none⟩ (.slice x.z x.y.ss.length x.c)) v0 v1 n2 bB kB (bl.set p x) kl lv line nv nx ∧
    Mid bB (bB + 1) wr (((((wr.setCell ⟨bB, p * 5, none⟩ (.int .i64 (lastS x.y).1)).setCell ⟨bB, p * 5 + 1, none⟩ (.int .i64 x.a)).setCell ⟨bB, p * 5 + 2, none⟩ (.int .i64 (lastS x.y).2)).setCell ⟨bB, p * 5 + 3, none⟩ (.int .i64 x.y.far)).setCell ⟨bB, p * 5 + 4, none⟩ (.slice x.z x.y.ss.length x.c)) := by
  have hm : Mid bB (bB + 1) wr (((((wr.setCell ⟨bB, p * 5, none⟩ (.int .i64 (lastS x.y).1)).setCell ⟨bB, p * 5 + 1, none⟩ (.int .i64 x.a)).setCell ⟨bB, p * 5 + 2, none⟩ (.int .i64 (lastS x.y).2)).setCell ⟨bB, p * 5 + 3, none⟩ (.int .i64 x.y.far)).setCell ⟨bB, p * 5 + 4, none⟩ (.slice x.z x.y.ss.length x.c)) :=
    ((((Mid.refl _ _ _).setCell (Nat.le_refl _) (by omega) _).setCell (Nat.le_refl _) (by omega) _).setCell (Nat.le_refl _) (by omega) _).setCell (Nat.le_refl _) (by omega) _ |>.setCell (Nat.le_refl _) (by omega) _
  obtain ⟨l1, l2, _, _⟩ := h.lo
  have hne := h.neK
  have hT := owns_type h.ob rfl (show (62 : TypeId) ≠ 32 by decide)
  refine ⟨⟨hm.cell (by omega) h.n0, hm.cell (by omega) h.n1, h.below.trans ((hm.below (by omega)).mono (by omega)), ?_, owns_off h.ok hm (show some kB ≠ some bB from fun e => hne (Option.some.inj e)), owns_off h.ol hm h.d1, owns_off h.on hm h.d2, h.d1, h.d2, h.d3, fun i hi => ?_⟩, hm⟩
  · have hs := (((((h.ob.stored (p * 5) (.int .i64 (lastS x.y).1)).1.stored (p * 5 + 1) (.int .i64 x.a)).1.stored (p * 5 + 2) (.int .i64 (lastS x.y).2)).1.stored (p * 5 + 3) (.int .i64 x.y.far)).1.stored (p * 5 + 4) (.slice x.z x.y.ss.length x.c)).1
    rw [cfCells_set _ p _ (by rw [h.len.1]; exact hp)]
    exact hs
  · rcases hi with hi | hi
    · rcases List.mem_or_eq_of_mem_set hi with hi | rfl
      · exact (h.rs i (.inl hi)).mid hm hT
      · exact hx.mid hm hT
    · exact (h.rs i (.inr hi)).mid hm hT
/-- One more for the next line. -/
theorem FrI.app (h : FrI w wr v0 v1 n2 bB kB bl kl lv line nv nx) {g cap : Nat} {x : Cf} (hx : StRow wr x.z x.y.ss) (hg : wr.grownBy wr' nv.ownBlock) (hown : wr'.ownsRow (w.heap.size + 2) 62 5 (.slice (some ⟨g, 0, none⟩) (nx.length + 1) cap) (nx.length + 1) (cfCells nx ++ cf5 x)) (hgg : nv.ownBlock = some g ∨ wr.heap.size ≤ g) : FrI w wr' v0 v1 n2 bB kB bl kl lv line (.slice (some ⟨g, 0, none⟩) (nx.length + 1) cap) (nx ++ [x]) := by
  have hlo : ∀ g', nv.ownBlock = some g' → w.heap.size + 2 ≤ g' := fun g' e => (h.on.lt g' e).1
  have hne : ∀ b, b < w.heap.size + 2 → some b ≠ nv.ownBlock := fun b hb e => by have := hlo b e.symm; omega
  obtain ⟨l1, l2, l3, l4⟩ := h.lo
  have hnk := h.neK'
  have hlw := cell_lt h.n0
  have hcell : ∀ (o : Nat) (u : Value), wr.cell? ⟨w.heap.size, o, none⟩ = some u → wr'.cell? ⟨w.heap.size, o, none⟩ = some u := fun o u hc => by
    rw [World.cell?_of_block (a := ⟨w.heap.size, o, none⟩) (hg.block w.heap.size hlw (fun e => hne _ (by omega) e))]; exact hc
  have hst : ∀ {z ss}, StRow wr z ss → StRow wr' z ss := fun {z ss} hs => by
    cases hn : nv.ownBlock with
    | none =>
      rw [hn] at hg
      exact hs.later ⟨hg.os, hg.tape, hg.output, hg.size, fun k hk => hg.block k hk (by simp)⟩
    | some g' =>
      rw [hn] at hg
      exact hs.mid (g := g') ⟨hg.os, hg.tape, hg.output, hg.size, fun k hk hk' => hg.block k hk (fun e => by have := Option.some.inj e; omega)⟩ (owns_type h.on hn (by decide))
  refine ⟨hcell _ _ h.n0, hcell _ _ h.n1, ?_, h.ob.kept hg (.inr (fun e => h.d2 e.symm)), h.ok.kept hg (.inr (fun e => hnk.2 e.symm)), h.ol.kept hg ?_, ?_, h.d1, ?_, ?_, ?_⟩
  · exact ⟨hg.os.trans h.below.os, hg.tape.trans h.below.tape, hg.output.trans h.below.output, Nat.le_trans h.below.size hg.size, fun k hk => (hg.block k (Nat.lt_of_lt_of_le hk h.below.size) (fun e => hne k (by omega) e)).trans (h.below.block k hk)⟩
  · cases hn : nv.ownBlock with
    | none =>
      cases hl : lv.ownBlock with
      | none => exact .inl rfl
      | some _ => exact .inr (by simp)
    | some g' => exact .inr (h.d3 g' hn)
  · rw [List.length_append, cfCells_app]
    exact hown
  · rintro e
    have e' : g = bB := by simpa [Value.ownBlock] using e
    rcases hgg with hgg | hgg
    · exact h.d2 (by rw [hgg, e'])
    · omega
  · intro g' e
    have e' : g = g' := by simpa [Value.ownBlock] using e
    subst e'
    rcases hgg with hgg | hgg
    · exact h.d3 g hgg
    · intro hl
      have := (h.ol.lt g hl).2
      omega
  · intro i hi
    rcases hi with hi | hi | hi
    · exact hst (h.rs i (.inl hi))
    · exact hst (h.rs i (.inr (.inl hi)))
    · rcases List.mem_append.1 hi with hi | hi
      · exact hst (h.rs i (.inr (.inr hi)))
      · rw [List.mem_singleton.1 hi]; exact hst hx
theorem FrI.setLine (h : FrI w wr v0 v1 n2 bB kB bl kl lv line nv nx) {lv' nv' : Value} {line' nx' : List Cf} (hl : wr.ownsRow (w.heap.size + 2) 62 5 lv' line'.length (cfCells line')) (hn : wr.ownsRow (w.heap.size + 2) 62 5 nv' nx'.length (cfCells nx')) (d1 : lv'.ownBlock ≠ some bB) (d2 : nv'.ownBlock ≠ some bB) (d3 : ∀ g, nv'.ownBlock = some g → lv'.ownBlock ≠ some g) (rs : ∀ i, i ∈ line' ∨ i ∈ nx' → StRow wr i.z i.y.ss) : FrI w wr v0 v1 n2 bB kB bl kl lv' line' nv' nx' :=
  ⟨h.n0, h.n1, h.below, h.ob, h.ok, hl, hn, d1, d2, d3, fun i hi => hi.elim (fun hi => h.rs i (.inl hi)) (fun hi => rs i hi)⟩
/-- The next line is the line. -/
theorem FrI.turn (h : FrI w wr v0 v1 n2 bB kB bl kl lv line nv nx) : FrI w wr v0 v1 n2 bB kB bl kl nv nx (.slice none 0 0) [] :=
  h.setLine h.on (World.ownsRow_nil _ _ _ _) h.d2 (by simp [Value.ownBlock]) (fun g e => by simp [Value.ownBlock] at e) (fun i hi => hi.elim (fun hi => h.rs i (.inr (.inr hi))) (fun hi => by simp at hi))
end
/-! ### Which step stands where -/
def stepAt (p : Nat) : Int × Int := stepOf (((p / 2 : Nat) : Int), ((p % 2 : Nat) : Int))
theorem stepAt_end {n : Nat} {e : Int × Int} (he : endOk n e = true) {p : Nat} (hp : (p : Int) = 2 * e.1 + e.2) : stepAt p = stepOf e ∧ p < 2 * n := by
  simp only [endOk, inR, Bool.and_eq_true, decide_eq_true_eq] at he
  have h1 : (((p / 2 : Nat) : Int), ((p % 2 : Nat) : Int)) = e := Prod.ext (by dsimp only; omega) (by dsimp only; omega)
  unfold stepAt
  rw [h1]
  exact ⟨rfl, by omega⟩
theorem stepAt_inj {p p' : Nat} (h : stepAt p = stepAt p') : p = p' := by
  unfold stepAt stepOf at h
  obtain ⟨h1, h2⟩ := Prod.mk.inj h
  dsimp only at h1 h2
  split at h2 <;> split at h2 <;> omega
/-- What the two rows say. -/
def BestR (best : Int × Int → Option Wy) (bl : List Cf) (kl : List Bool) (n2 : Nat) : Prop :=
  ∀ p, p < n2 → (best (stepAt p) = none ∧ bl[p]? = some c0 ∧ kl[p]? = some false) ∨ ∃ i, best (stepAt p) = some i.y ∧ bl[p]? = some i ∧ kl[p]? = some true
theorem bestR_start (n2 : Nat) : BestR (fun _ => none) (List.replicate n2 c0) (List.replicate n2 false) n2 := fun p hp => .inl ⟨rfl, by simp [hp], by simp [hp]⟩
theorem BestR.put {best : Int × Int → Option Wy} {bl : List Cf} {kl : List Bool} {n2 : Nat} (h : BestR best bl kl n2) {p : Nat} (hp : p < n2) (hb : bl.length = n2) (hk : kl.length = n2) (x : Cf) : BestR (fun t => if t = stepAt p then some x.y else best t) (bl.set p x) (kl.set p true) n2 := by
  intro r hr
  by_cases e : r = p
  · subst e
    exact .inr ⟨x, by simp, by simp [hb, hr], by simp [hk, hr]⟩
  · have hne : stepAt r ≠ stepAt p := fun h' => e (stepAt_inj h')
    simp only [if_neg hne]
    rw [List.getElem?_set_ne (fun h' => e h'.symm), List.getElem?_set_ne (fun h' => e h'.symm)]
    exact h r hr
/-- What is asked of a way that is to be gone on from. -/
structure CfR (N : Nt) (G : Gr) (room : Int) (i : Cf) : Prop where
  spot : spotP N (lastS i.y).1 i.a (lastS i.y).2 = true
  room : roomP N (lastS i.y).1 i.a (lastS i.y).2 = costW G room i.y (lastS i.y)
end Go.Proofs.Ytldafgbhjpfboaa

/- Loops: plain, and as rows of rows in memory. Own work. -/
namespace Go.Proofs.Ytldafgbhjpfboaa
open Go.RowKit Go.Sort
set_option maxHeartbeats 8000000
set_option maxRecDepth 100000

/-- The way back to a step. -/
noncomputable def loopAt (N : Nt) (hr : netOk N = (0, 0)) (p : Nat) : Option Wy := bestO (grN N hr) (stepAt p) (lenAt N ((p / 2 : Nat) : Int)) (stepAt p)
noncomputable def loopsTo (N : Nt) (hr : netOk N = (0, 0)) : Nat → List (List (Int × Int))
  | 0 => []
  | m + 1 => loopsTo N hr m ++ (match loopAt N hr m with | none => [] | some y => [y.ss])
theorem loopsTo_none {N : Nt} {hr : netOk N = (0, 0)} {m : Nat} (h : loopAt N hr m = none) : loopsTo N hr (m + 1) = loopsTo N hr m := by
  rw [loopsTo, h, List.append_nil]
theorem loopsTo_some {N : Nt} {hr : netOk N = (0, 0)} {m : Nat} {y : Wy} (h : loopAt N hr m = some y) : loopsTo N hr (m + 1) = loopsTo N hr m ++ [y.ss] := by
  rw [loopsTo, h]
theorem loopsTo_len (N : Nt) (hr : netOk N = (0, 0)) : ∀ m, (loopsTo N hr m).length ≤ m
  | 0 => by simp [loopsTo]
  | m + 1 => by
    have ih := loopsTo_len N hr m
    cases h : loopAt N hr m with
    | none => rw [loopsTo_none h]; omega
    | some y => rw [loopsTo_some h, List.length_append]; simp; omega
theorem WayR.head {G : Gr} {s : Int × Int} {room : Int} {y : Wy} (h : WayR G s room y) : y.ss.head? = some s := by
  induction h with
  | base => rfl
  | @more y t e h ht he ih =>
    show (y.ss ++ [stepOf e]).head? = some s
    cases hy : y.ss with
    | nil => rw [hy] at ih; cases ih
    | cons a l => rw [hy] at ih; simpa using ih
/-- What is told of a loop. -/
structure LoopR (n : Nat) (ss : List (Int × Int)) : Prop where
  two : 2 ≤ ss.length
  few : ss.length ≤ 2 * n + 1
  back : ∃ s, ss.head? = some s ∧ ss.getLast? = some s
theorem rounds_go {G : Gr} {s : Int × Int} {room : Int} (hr : 0 ≤ room) : ∀ k, ∃ best line, RoundI G s room k best line
  | 0 => ⟨_, _, round_start⟩
  | k + 1 => by
    obtain ⟨best, line, h⟩ := rounds_go hr k
    exact ⟨_, _, round_next hr h⟩
theorem bestO_short {G : Gr} {s : Int × Int} {room : Int} (hr : 0 ≤ room) {t : Int × Int} {y : Wy} (h : bestO G s room t = some y) : y.ss.length ≤ 2 * G.n + 1 := by
  obtain ⟨best, line, hR⟩ := rounds_go (G := G) (s := s) hr (2 * G.n + 1)
  have h0 : line = [] := by
    by_cases e : line = []
    · exact e
    · have := round_few hR e
      omega
  subst h0
  have hb := round_best hr hR t
  rw [h] at hb
  exact hR.short t y hb
theorem loopAt_ok {N : Nt} {hr : netOk N = (0, 0)} {m : Nat} (hm : m < 2 * N.pcs.length) {y : Wy} (h : loopAt N hr m = some y) : LoopR N.pcs.length y.ss := by
  have hy := bestO_way h
  have hl := lenAt_pos hr ((m / 2 : Nat) : Int) (by omega) (by omega)
  exact ⟨hy.two, bestO_short (by omega) h, stepAt m, hy.way.head, hy.last⟩
theorem loopsTo_ok (N : Nt) (hr : netOk N = (0, 0)) : ∀ m, m ≤ 2 * N.pcs.length → ∀ ss ∈ loopsTo N hr m, LoopR N.pcs.length ss
  | 0 => fun _ ss h => by simp [loopsTo] at h
  | m + 1 => fun hm ss h => by
    cases hl : loopAt N hr m with
    | none => rw [loopsTo_none hl] at h; exact loopsTo_ok N hr m (by omega) ss h
    | some y =>
      rw [loopsTo_some hl] at h
      rcases List.mem_append.1 h with h | h
      · exact loopsTo_ok N hr m (by omega) ss h
      · rw [List.mem_singleton.1 h]; exact loopAt_ok (by omega) hl
/-! ### In memory -/
structure Lp where
  ss : List (Int × Int)
  z : Option Addr
  c : Nat
instance : Inhabited Lp := ⟨⟨[], none, 0⟩⟩
def lpCells (l : List Lp) : List Value := l.map fun i => .slice i.z i.ss.length i.c
theorem lpCells_add (l : List Lp) (i : Lp) : lpCells (l ++ [i]) = lpCells l ++ [.slice i.z i.ss.length i.c] := by simp [lpCells]
theorem infoSteps : (Try.prog.info? 30).map (fun i => (i.zero, i.size, i.bytes)) = some (some (.slice none 0 0), 1, 24) := by kernel_rfl
/-- While loops are laid in a row. -/
structure LpI (wb wr : World) (sv : Value) (l : List Lp) : Prop where
  below : Below wb.heap.size wb wr
  own : wr.ownsRow wb.heap.size 30 1 sv l.length (lpCells l)
  st : ∀ i ∈ l, StRow wr i.z i.ss
theorem LpI.later {wb wr wr' : World} {sv : Value} {l : List Lp} (h : LpI wb wr sv l) (hb : Below wr.heap.size wr wr') : LpI wb wr' sv l :=
  ⟨h.below.trans (hb.mono h.below.size), owns_later' h.own hb, fun i hi => (h.st i hi).later hb⟩
theorem LpI.app {wb wr w7 : World} {sv : Value} {l : List Lp} (h : LpI wb wr sv l) {x : Lp} (hx : StRow wr x.z x.ss) (hg : wr.grownBy w7 sv.ownBlock) {g cp : Nat} (hown : w7.ownsRow wb.heap.size 30 1 (.slice (some ⟨g, 0, none⟩) (l.length + 1) cp) (l.length + 1) (lpCells l ++ [.slice x.z x.ss.length x.c])) : LpI wb w7 (.slice (some ⟨g, 0, none⟩) (l.length + 1) cp) (l ++ [x]) := by
  have hst : ∀ {z ss}, StRow wr z ss → StRow w7 z ss := fun {z ss} hs => by
    cases hn : sv.ownBlock with
    | none =>
      rw [hn] at hg
      exact hs.later ⟨hg.os, hg.tape, hg.output, hg.size, fun k hk => hg.block k hk (by simp)⟩
    | some g' =>
      rw [hn] at hg
      exact hs.mid (g := g') ⟨hg.os, hg.tape, hg.output, hg.size, fun k hk hk' => hg.block k hk (fun e => by have := Option.some.inj e; omega)⟩ (owns_type h.own hn (by decide))
  refine ⟨⟨hg.os.trans h.below.os, hg.tape.trans h.below.tape, hg.output.trans h.below.output, Nat.le_trans h.below.size hg.size, fun k hk => (hg.block k (Nat.lt_of_lt_of_le hk h.below.size) (fun e => by have := (h.own.lt k e.symm).1; omega)).trans (h.below.block k hk)⟩, ?_, fun i hi => ?_⟩
  · rw [lpCells_add, List.length_append]
    exact hown
  · rcases List.mem_append.1 hi with hi | hi
    · exact hst (h.st i hi)
    · rw [List.mem_singleton.1 hi]; exact hst hx
/-- What the two functions answer. -/
def LoopsR (N : Nt) (hr : netOk N = (0, 0)) (w w' : World) (v : Value) : Prop :=
  ∃ l : List Lp, w'.ownsRow w.heap.size 30 1 v l.length (lpCells l) ∧ l.map Lp.ss = loopsTo N hr (2 * N.pcs.length) ∧ (∀ i ∈ l, StRow w' i.z i.ss) ∧ Below w.heap.size w w'
theorem loopAt_enter {N : Nt} (hr : netOk N = (0, 0)) {k s : Nat} (hs : s ≤ 1) {p1 p2 p3 : Int} (he : enterP N ((k : Int), (s : Int)) = (p1, p2, p3)) : bestO (grN N hr) (p1, p3) (roomP N p1 p2 p3) (stepAt (2 * k + s)) = loopAt N hr (2 * k + s) ∧ stepAt (2 * k + s) = (p1, p3) ∧ roomP N p1 p2 p3 = lenAt N (k : Int) := by
  have e1 : stepAt (2 * k + s) = stepOf ((k : Int), (s : Int)) := by
    unfold stepAt
    rw [show (2 * k + s) / 2 = k by omega, show (2 * k + s) % 2 = s by omega]
  have e2 : (p1, p3) = stepOf ((k : Int), (s : Int)) := by
    have h := enter_step (N := N) (e := ((k : Int), (s : Int)))
    rw [he] at h
    exact h
  have e3 : roomP N p1 p2 p3 = lenAt N (k : Int) := by
    have h : roomP N (enterP N ((k : Int), (s : Int))).1 (enterP N ((k : Int), (s : Int))).2.1 (enterP N ((k : Int), (s : Int))).2.2 = lenAt N (k : Int) := by
      unfold enterP roomP
      split <;> simp
    rw [he] at h
    exact h
  refine ⟨?_, e1.trans e2.symm, e3⟩
  unfold loopAt
  rw [e3, e2, ← e1, show ((2 * k + s) / 2 : Nat) = k by omega]
end Go.Proofs.Ytldafgbhjpfboaa

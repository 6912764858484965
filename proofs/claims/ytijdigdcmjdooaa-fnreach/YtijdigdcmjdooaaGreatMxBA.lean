/- spec.l4from: what lies where. Own work. -/
import Derived.Test.YtijdigdcmjdooaaGreatMxAV
import Derived.Test.YtijdigdcmjdooaaGreatMxAW
import Derived.Test.YtijdigdcmjdooaaGreatMxAZ
import Derived.Test.YtijdigdcmjdooaaGreatMxAT
import Derived.WalkSmall
namespace Go.Proofs.YtijdigdcmjdooaaGreat
open Go.RowKit Go.Sort
set_option maxHeartbeats 8000000
set_option maxRecDepth 100000

theorem infoCf : (Tryz.prog.info? 87).map (fun i => (i.zero, i.size, i.bytes)) = some (some (.agg #[.int .i64 0, .int .i64 0, .int .i64 0, .int .i64 0, .slice none 0 0]), 5, 56) := by kernel_rfl
theorem owns_off {w w' : World} {base g : Nat} {e : TypeId} {size : Nat} {v : Value} {n : Nat} {xs : List Value} (h : w.ownsRow base e size v n xs) (hm : Mid g (g + 1) w w') (hne : v.ownBlock ≠ some g) : w'.ownsRow base e size v n xs := by
  refine ⟨h.1, ?_⟩
  rcases h.2 with h' | ⟨g', cap, cur, hv, hbg, hg, rest⟩
  · exact .inl h'
  · refine .inr ⟨g', cap, cur, hv, hbg, ?_, rest⟩
    have hgm : g' ≠ g := fun e => hne (by rw [hv, ← e]; rfl)
    have hlt : g' < w.heap.size := by
      rcases Nat.lt_or_ge g' w.heap.size with h | h
      · exact h
      · rw [Array.getElem?_eq_none h] at hg; cases hg
    rw [hm.block g' hlt (by omega)]
    exact hg
theorem owns_type {w : World} {base g : Nat} {e e' : TypeId} {size : Nat} {v : Value} {n : Nat} {xs : List Value} (h : w.ownsRow base e size v n xs) (hv : v.ownBlock = some g) (hne : e ≠ e') : ∀ cur fz, w.heap[g]? ≠ some (.cells cur e' fz) := by
  intro cur fz hc
  rcases h.2 with ⟨h', _⟩ | ⟨g', cap, cur', hv', _, hg, _⟩
  · rw [h'] at hv; cases hv
  · rw [hv'] at hv
    have : g' = g := by simpa [Value.ownBlock] using hv
    subst this
    rw [hg] at hc
    simp at hc
    exact hne hc.2.1
/-- Where all lies while ways are sought. -/
structure FrI (w wr : World) (v0 v1 : Value) (n2 bB kB : Nat) (bl : List Cf) (kl : List Bool) (lv : Value) (line : List Cf) (nv : Value) (nx : List Cf) : Prop where
  n0 : wr.cell? ⟨w.heap.size, 0, none⟩ = some v0
  n1 : wr.cell? ⟨w.heap.size, 1, none⟩ = some v1
  below : Below w.heap.size w wr
  ob : wr.ownsRow (w.heap.size + 2) 87 5 (.slice (some ⟨bB, 0, none⟩) n2 n2) n2 (cfCells bl)
  ok : wr.ownsRow (w.heap.size + 2) 4 1 (.slice (some ⟨kB, 0, none⟩) n2 n2) n2 (kl.map .bool)
  ol : wr.ownsRow (w.heap.size + 2) 87 5 lv line.length (cfCells line)
  on : wr.ownsRow (w.heap.size + 2) 87 5 nv nx.length (cfCells nx)
  d1 : lv.ownBlock ≠ some bB
  d2 : nv.ownBlock ≠ some bB
  d3 : ∀ g, nv.ownBlock = some g → lv.ownBlock ≠ some g
  rs : ∀ i, i ∈ bl ∨ i ∈ line ∨ i ∈ nx → StRow wr i.z i.y.ss
section
variable {w wr wr' : World} {v0 v1 lv nv : Value} {n2 bB kB : Nat} {bl line nx : List Cf} {kl : List Bool}
theorem FrI.later (h : FrI w wr v0 v1 n2 bB kB bl kl lv line nv nx) (hb : Below wr.heap.size wr wr') : FrI w wr' v0 v1 n2 bB kB bl kl lv line nv nx :=
  ⟨cell_later' hb h.n0, cell_later' hb h.n1, h.below.trans (hb.mono h.below.size), owns_later' h.ob hb, owns_later' h.ok hb, owns_later' h.ol hb, owns_later' h.on hb, h.d1, h.d2, h.d3, fun i hi => (h.rs i hi).later hb⟩
theorem FrI.len (h : FrI w wr v0 v1 n2 bB kB bl kl lv line nv nx) : bl.length = n2 ∧ kl.length = n2 := by
  have h1 := h.ob.1
  have h2 := h.ok.1
  rw [cfCells_len] at h1
  rw [List.length_map] at h2
  omega
theorem FrI.neK (h : FrI w wr v0 v1 n2 bB kB bl kl lv line nv nx) : kB ≠ bB := by
  rcases owns_ne h.ok h.ob (by decide) with h' | h'
  · simp [Value.ownBlock] at h'
  · exact fun e => h' (by rw [e])
theorem FrI.neK' (h : FrI w wr v0 v1 n2 bB kB bl kl lv line nv nx) : lv.ownBlock ≠ some kB ∧ nv.ownBlock ≠ some kB := by
  constructor
  · rcases owns_ne h.ol h.ok (by decide) with h' | h'
    · rw [h']; simp
    · exact h'
  · rcases owns_ne h.on h.ok (by decide) with h' | h'
    · rw [h']; simp
    · exact h'
theorem FrI.lo (h : FrI w wr v0 v1 n2 bB kB bl kl lv line nv nx) : w.heap.size + 2 ≤ bB ∧ w.heap.size + 2 ≤ kB ∧ bB < wr.heap.size ∧ kB < wr.heap.size := ⟨(h.ob.lt bB rfl).1, (h.ok.lt kB rfl).1, (h.ob.lt bB rfl).2, (h.ok.lt kB rfl).2⟩
/-- A step's mark. -/
theorem FrI.mark (h : FrI w wr v0 v1 n2 bB kB bl kl lv line nv nx) (p : Nat) (b : Bool) : FrI w (wr.setCell ⟨kB, p, none⟩ (.bool b)) v0 v1 n2 bB kB bl (kl.set p b) lv line nv nx := by
  have hm : Mid kB (kB + 1) wr (wr.setCell ⟨kB, p, none⟩ (.bool b)) := Mid.set1 _
  obtain ⟨l1, l2, _, _⟩ := h.lo
  have hne := h.neK
  have h' := h.neK'
  refine ⟨hm.cell (by omega) h.n0, hm.cell (by omega) h.n1, h.below.trans ((hm.below (by omega)).mono (by omega)), owns_off h.ob hm (show some bB ≠ some kB from fun e => hne (Option.some.inj e).symm), ?_, owns_off h.ol hm h'.1, owns_off h.on hm h'.2, h.d1, h.d2, h.d3, fun i hi => (h.rs i hi).mid hm (owns_type h.ok rfl (by decide))⟩
  have hs := (h.ok.stored p (.bool b)).1
  rw [List.map_set]
  exact hs
/-- What is best now. -/
theorem FrI.put (h : FrI w wr v0 v1 n2 bB kB bl kl lv line nv nx) (p : Nat) (hp : p < n2) (x : Cf) (hx : StRow wr x.z x.y.ss) :
    FrI w (((((wr.setCell ⟨bB, p * 5, none⟩ (.int .i64 (lastS x.y).1)).setCell ⟨bB, p * 5 + 1, none⟩ (.int .i64 x.a)).setCell ⟨bB, p * 5 + 2, none⟩ (.int .i64 (lastS x.y).2)).setCell ⟨bB, p * 5 + 3, none⟩ (.int .i64 x.y.far)).setCell ⟨bB, p * 5 + 4, none⟩ (.slice x.z x.y.ss.length x.c)) v0 v1 n2 bB kB (bl.set p x) kl lv line nv nx ∧
    Mid bB (bB + 1) wr (((((wr.setCell ⟨bB, p * 5, none⟩ (.int .i64 (lastS x.y).1)).setCell ⟨bB, p * 5 + 1, none⟩ (.int .i64 x.a)).setCell ⟨bB, p * 5 + 2, none⟩ (.int .i64 (lastS x.y).2)).setCell ⟨bB, p * 5 + 3, none⟩ (.int .i64 x.y.far)).setCell ⟨bB, p * 5 + 4, none⟩ (.slice x.z x.y.ss.length x.c)) := by
  have hm : Mid bB (bB + 1) wr (((((wr.setCell ⟨bB, p * 5, none⟩ (.int .i64 (lastS x.y).1)).setCell ⟨bB, p * 5 + 1, none⟩ (.int .i64 x.a)).setCell ⟨bB, p * 5 + 2, none⟩ (.int .i64 (lastS x.y).2)).setCell ⟨bB, p * 5 + 3, none⟩ (.int .i64 x.y.far)).setCell ⟨bB, p * 5 + 4, none⟩ (.slice x.z x.y.ss.length x.c)) :=
    ((((Mid.refl _ _ _).setCell (Nat.le_refl _) (by omega) _).setCell (Nat.le_refl _) (by omega) _).setCell (Nat.le_refl _) (by omega) _).setCell (Nat.le_refl _) (by omega) _ |>.setCell (Nat.le_refl _) (by omega) _
  obtain ⟨l1, l2, _, _⟩ := h.lo
  have hne := h.neK
  have hT := owns_type h.ob rfl (show (87 : TypeId) ≠ 132 by decide)
  refine ⟨⟨hm.cell (by omega) h.n0, hm.cell (by omega) h.n1, h.below.trans ((hm.below (by omega)).mono (by omega)), ?_, owns_off h.ok hm (show some kB ≠ some bB from fun e => hne (Option.some.inj e)), owns_off h.ol hm h.d1, owns_off h.on hm h.d2, h.d1, h.d2, h.d3, fun i hi => ?_⟩, hm⟩
  · have hs := (((((h.ob.stored (p * 5) (.int .i64 (lastS x.y).1)).1.stored (p * 5 + 1) (.int .i64 x.a)).1.stored (p * 5 + 2) (.int .i64 (lastS x.y).2)).1.stored (p * 5 + 3) (.int .i64 x.y.far)).1.stored (p * 5 + 4) (.slice x.z x.y.ss.length x.c)).1
    rw [cfCells_set _ p _ (by rw [h.len.1]; exact hp)]
    exact hs
  · rcases hi with hi | hi
    · rcases List.mem_or_eq_of_mem_set hi with hi | rfl
      · exact (h.rs i (.inl hi)).mid hm hT
      · exact hx.mid hm hT
    · exact (h.rs i (.inr hi)).mid hm hT
/-- One more for the next line. -/
theorem FrI.app (h : FrI w wr v0 v1 n2 bB kB bl kl lv line nv nx) {g cap : Nat} {x : Cf} (hx : StRow wr x.z x.y.ss) (hg : wr.grownBy wr' nv.ownBlock) (hown : wr'.ownsRow (w.heap.size + 2) 87 5 (.slice (some ⟨g, 0, none⟩) (nx.length + 1) cap) (nx.length + 1) (cfCells nx ++ cf5 x)) (hgg : nv.ownBlock = some g ∨ wr.heap.size ≤ g) : FrI w wr' v0 v1 n2 bB kB bl kl lv line (.slice (some ⟨g, 0, none⟩) (nx.length + 1) cap) (nx ++ [x]) := by
  have hlo : ∀ g', nv.ownBlock = some g' → w.heap.size + 2 ≤ g' := fun g' e => (h.on.lt g' e).1
  have hne : ∀ b, b < w.heap.size + 2 → some b ≠ nv.ownBlock := fun b hb e => by have := hlo b e.symm; omega
  obtain ⟨l1, l2, l3, l4⟩ := h.lo
  have hnk := h.neK'
  have hlw := cell_lt h.n0
  have hcell : ∀ (o : Nat) (u : Value), wr.cell? ⟨w.heap.size, o, none⟩ = some u → wr'.cell? ⟨w.heap.size, o, none⟩ = some u := fun o u hc => by
    rw [World.cell?_of_block (a := ⟨w.heap.size, o, none⟩) (hg.block w.heap.size hlw (fun e => hne _ (by omega) e))]; exact hc
  have hst : ∀ {z ss}, StRow wr z ss → StRow wr' z ss := fun {z ss} hs => by
    cases hn : nv.ownBlock with
    | none =>
      rw [hn] at hg
      exact hs.later ⟨hg.os, hg.tape, hg.output, hg.size, fun k hk => hg.block k hk (by simp)⟩
    | some g' =>
      rw [hn] at hg
      exact hs.mid (g := g') ⟨hg.os, hg.tape, hg.output, hg.size, fun k hk hk' => hg.block k hk (fun e => by have := Option.some.inj e; omega)⟩ (owns_type h.on hn (by decide))
  refine ⟨hcell _ _ h.n0, hcell _ _ h.n1, ?_, h.ob.kept hg (.inr (fun e => h.d2 e.symm)), h.ok.kept hg (.inr (fun e => hnk.2 e.symm)), h.ol.kept hg ?_, ?_, h.d1, ?_, ?_, ?_⟩
  · exact ⟨hg.os.trans h.below.os, hg.tape.trans h.below.tape, hg.output.trans h.below.output, Nat.le_trans h.below.size hg.size, fun k hk => (hg.block k (Nat.lt_of_lt_of_le hk h.below.size) (fun e => hne k (by omega) e)).trans (h.below.block k hk)⟩
  · cases hn : nv.ownBlock with
    | none =>
      cases hl : lv.ownBlock with
      | none => exact .inl rfl
      | some _ => exact .inr (by simp)
    | some g' => exact .inr (h.d3 g' hn)
  · rw [List.length_append, cfCells_app]
    exact hown
  · rintro e
    have e' : g = bB := by simpa [Value.ownBlock] using e
    rcases hgg with hgg | hgg
    · exact h.d2 (by rw [hgg, e'])
    · omega
  · intro g' e
    have e' : g = g' := by simpa [Value.ownBlock] using e
    subst e'
    rcases hgg with hgg | hgg
    · exact h.d3 g hgg
    · intro hl
      have := (h.ol.lt g hl).2
      omega
  · intro i hi
    rcases hi with hi | hi | hi
    · exact hst (h.rs i (.inl hi))
    · exact hst (h.rs i (.inr (.inl hi)))
    · rcases List.mem_append.1 hi with hi | hi
      · exact hst (h.rs i (.inr (.inr hi)))
      · rw [List.mem_singleton.1 hi]; exact hst hx
theorem FrI.setLine (h : FrI w wr v0 v1 n2 bB kB bl kl lv line nv nx) {lv' nv' : Value} {line' nx' : List Cf} (hl : wr.ownsRow (w.heap.size + 2) 87 5 lv' line'.length (cfCells line')) (hn : wr.ownsRow (w.heap.size + 2) 87 5 nv' nx'.length (cfCells nx')) (d1 : lv'.ownBlock ≠ some bB) (d2 : nv'.ownBlock ≠ some bB) (d3 : ∀ g, nv'.ownBlock = some g → lv'.ownBlock ≠ some g) (rs : ∀ i, i ∈ line' ∨ i ∈ nx' → StRow wr i.z i.y.ss) : FrI w wr v0 v1 n2 bB kB bl kl lv' line' nv' nx' :=
  ⟨h.n0, h.n1, h.below, h.ob, h.ok, hl, hn, d1, d2, d3, fun i hi => hi.elim (fun hi => h.rs i (.inl hi)) (fun hi => rs i hi)⟩
/-- The next line is the line. -/
theorem FrI.turn (h : FrI w wr v0 v1 n2 bB kB bl kl lv line nv nx) : FrI w wr v0 v1 n2 bB kB bl kl nv nx (.slice none 0 0) [] :=
  h.setLine h.on (World.ownsRow_nil _ _ _ _) h.d2 (by simp [Value.ownBlock]) (fun g e => by simp [Value.ownBlock] at e) (fun i hi => hi.elim (fun hi => h.rs i (.inr (.inr hi))) (fun hi => by simp at hi))
end
/-! ### Which step stands where -/
def stepAt (p : Nat) : Int × Int := stepOf (((p / 2 : Nat) : Int), ((p % 2 : Nat) : Int))
theorem stepAt_end {n : Nat} {e : Int × Int} (he : endOk n e = true) {p : Nat} (hp : (p : Int) = 2 * e.1 + e.2) : stepAt p = stepOf e ∧ p < 2 * n := by
  simp only [endOk, inR, Bool.and_eq_true, decide_eq_true_eq] at he
  have h1 : (((p / 2 : Nat) : Int), ((p % 2 : Nat) : Int)) = e := Prod.ext (by dsimp only; omega) (by dsimp only; omega)
  unfold stepAt
  rw [h1]
  exact ⟨rfl, by omega⟩
theorem stepAt_inj {p p' : Nat} (h : stepAt p = stepAt p') : p = p' := by
  unfold stepAt stepOf at h
  obtain ⟨h1, h2⟩ := Prod.mk.inj h
  dsimp only at h1 h2
  split at h2 <;> split at h2 <;> omega
/-- What the two rows say. -/
def BestR (best : Int × Int → Option Wy) (bl : List Cf) (kl : List Bool) (n2 : Nat) : Prop :=
  ∀ p, p < n2 → (best (stepAt p) = none ∧ bl[p]? = some c0 ∧ kl[p]? = some false) ∨ ∃ i, best (stepAt p) = some i.y ∧ bl[p]? = some i ∧ kl[p]? = some true
theorem bestR_start (n2 : Nat) : BestR (fun _ => none) (List.replicate n2 c0) (List.replicate n2 false) n2 := fun p hp => .inl ⟨rfl, by simp [hp], by simp [hp]⟩
theorem BestR.put {best : Int × Int → Option Wy} {bl : List Cf} {kl : List Bool} {n2 : Nat} (h : BestR best bl kl n2) {p : Nat} (hp : p < n2) (hb : bl.length = n2) (hk : kl.length = n2) (x : Cf) : BestR (fun t => if t = stepAt p then some x.y else best t) (bl.set p x) (kl.set p true) n2 := by
  intro r hr
  by_cases e : r = p
  · subst e
    exact .inr ⟨x, by simp, by simp [hb, hr], by simp [hk, hr]⟩
  · have hne : stepAt r ≠ stepAt p := fun h' => e (stepAt_inj h')
    simp only [if_neg hne]
    rw [List.getElem?_set_ne (fun h' => e h'.symm), List.getElem?_set_ne (fun h' => e h'.symm)]
    exact h r hr
/-- What is asked of a way that is to be gone on from. -/
structure CfR (N : Nt) (G : Gr) (room : Int) (i : Cf) : Prop where
  spot : spotP N (lastS i.y).1 i.a (lastS i.y).2 = true
  room : roomP N (lastS i.y).1 i.a (lastS i.y).2 = costW G room i.y (lastS i.y)
end Go.Proofs.YtijdigdcmjdooaaGreat

/- The heap of trails: pop. Own work. -/
namespace Go.Proofs.YtijdigdcmjdooaaGreat
open Go.RowKit Go.Sort
set_option maxHeartbeats 8000000
set_option maxRecDepth 100000

theorem sink_none (B base g cap : Nat) (l : List It) (w : World) (h : HpAt w B base (.slice (some ⟨g, 0, none⟩) 0 cap) 0 l) :
    Calls Tryz.prog 129 #[.pointer (some ⟨B, 0, none⟩), .int .i64 0] w fun e w' => e = .returned (.tuple #[]) ∧ w' = w := by
  have c1 := h.c1
  clear h
  go_enter Tryz.func129, Tryz.ntmps129
  go_wp2_with fail
  go_loopw [1, 4, 5] (fun s1 _ _ wr => s1 = .int .i64 0 ∧ wr = w) (fun _ _ _ _ => 0)
  case atStart => exact ⟨rfl, rfl⟩
  case round =>
    obtain ⟨rfl, rfl⟩ := hrel
    go_wp2_with fail
    go_loopw [4, 5] (fun s4 s5 wx => s4 = .int .i64 0 ∧ s5 = .int .i64 1 ∧ wx = wr) (fun _ _ _ => 0)
    case atStart => exact ⟨rfl, rfl, rfl⟩
    case round =>
      obtain ⟨rfl, rfl, rfl⟩ := hrel
      go_wp2_with fail
      exact bodyPost_ret (v := .tuple #[]) (by simp [results, Tryz.results129, go_sem]) rfl ⟨rfl, rfl⟩
def popL (l : List It) (n : Nat) : List It := (l.set 0 (l.getD n default)).take n
theorem popL_len {l : List It} {n : Nat} (h : l.length = n + 1) : (popL l n).length = n := by simp [popL, h]
theorem popL_f {l : List It} {n : Nat} (h : l.length = n + 1) : ∀ k, k < n → itF (popL l n) k = popF (itF l) n k := by
  intro k hk
  unfold itF popL popF
  simp only [List.getD_eq_getElem?_getD, List.getElem?_take, List.getElem?_set]
  by_cases h0 : k = 0
  · subst h0
    have h1 : 0 < l.length := by omega
    have h2 : n < l.length := by omega
    simp [hk, h1]
  · have h0' : ¬ 0 = k := fun e => h0 e.symm
    simp [hk, h0, h0']
theorem popL_mem {l : List It} {n : Nat} (h : l.length = n + 1) (x : It) : x ∈ l ↔ x = itF l 0 ∨ x ∈ popL l n := by
  have hm : ∀ (m : List It) (x : It), x ∈ m ↔ HMem (itF m) m.length x := fun m x => by
    constructor
    · intro hx
      obtain ⟨k, hk, rfl⟩ := List.getElem_of_mem hx
      exact ⟨k, hk, itF_at hk⟩
    · rintro ⟨k, hk, rfl⟩
      rw [itF_at hk]; exact List.getElem_mem hk
  rw [hm l, hm (popL l n), h, popL_len h, pop_mem]
  have e : ∀ y, HMem (popF (itF l) n) n y ↔ HMem (itF (popL l n)) n y := fun y => by
    constructor
    · rintro ⟨k, hk, e⟩; exact ⟨k, hk, by rw [popL_f h k hk]; exact e⟩
    · rintro ⟨k, hk, e⟩; exact ⟨k, hk, by rw [← popL_f h k hk]; exact e⟩
  rw [e]
theorem popL_down {l : List It} {n : Nat} (h : l.length = n + 1) (ho : HeapOk leI (itF l) (n + 1)) : HeapDown leI (itF (popL l n)) n 0 := by
  have hd := heapDown_pop ho
  refine ⟨fun j h0 h1 h2 => ?_, fun h0 => by omega⟩
  rw [popL_f h j h1, popL_f h _ (by omega)]
  exact hd.1 j h0 h1 h2
theorem itCells_take (l : List It) (n : Nat) : itCells (l.take n) = (itCells l).take (n * 2) := by
  induction l generalizing n with
  | nil => simp [itCells]
  | cons x l ih =>
    cases n with
    | zero => simp [itCells]
    | succ n =>
      have e : ∀ (a : It) (l : List It), itCells (a :: l) = .int .i64 a.y.far :: .slice a.z a.y.ss.length a.c :: itCells l := fun _ _ => rfl
      rw [List.take_succ_cons, e, e, ih]
      have : (n + 1) * 2 = n * 2 + 1 + 1 := by omega
      rw [this]
      rfl
theorem owns_less {w : World} {base g cap n : Nat} {T : TypeId} {xs : List Value} (h : w.ownsRow base T 2 (.slice (some ⟨g, 0, none⟩) (n + 1) cap) (n + 1) xs) : w.ownsRow base T 2 (.slice (some ⟨g, 0, none⟩) n cap) n (xs.take (n * 2)) := by
  refine ⟨by rw [List.length_take, h.1]; omega, ?_⟩
  rcases h.2 with ⟨h', _⟩ | ⟨g', cap', cur, hv, hb, hg, hn, hc, hs, ht⟩
  · cases h'
  · obtain ⟨rfl, rfl⟩ : g = g' ∧ cap = cap' := by simpa using hv
    refine .inr ⟨g, cap, cur, rfl, hb, hg, by omega, hc, hs, ?_⟩
    rw [← ht, List.take_take]
    congr 1
    omega
theorem HpAt.popped {w : World} {B base g cap n : Nat} {l : List It} (h : HpAt w B base (.slice (some ⟨g, 0, none⟩) (n + 1) cap) (n + 1) l) (hn : n < l.length) :
    HpAt (((w.setCell ⟨g, 0, none⟩ (.int .i64 l[n].y.far)).setCell ⟨g, 1, none⟩ (.slice l[n].z l[n].y.ss.length l[n].c)).setCell ⟨B, 1, none⟩ (.slice (some ⟨g, 0, none⟩) n cap)) B base (.slice (some ⟨g, 0, none⟩) n cap) n (popL l n) ∧
    Kept2 B (some g) w (((w.setCell ⟨g, 0, none⟩ (.int .i64 l[n].y.far)).setCell ⟨g, 1, none⟩ (.slice l[n].z l[n].y.ss.length l[n].c)).setCell ⟨B, 1, none⟩ (.slice (some ⟨g, 0, none⟩) n cap)) := by
  have hb := base_le h.own
  have hlo := h.lo
  have hgB : g ≠ B := by omega
  have hk : Kept2 B (some g) w (((w.setCell ⟨g, 0, none⟩ (.int .i64 l[n].y.far)).setCell ⟨g, 1, none⟩ (.slice l[n].z l[n].y.ss.length l[n].c)).setCell ⟨B, 1, none⟩ (.slice (some ⟨g, 0, none⟩) n cap)) := by
    refine ⟨rfl, rfl, rfl, by simp, fun k hk h1 h2 => ?_⟩
    have h3 : k ≠ g := fun e => h2 (by rw [e])
    rw [Below.heap_setCell _ _ _ k h1, Below.heap_setCell _ _ _ k h3, Below.heap_setCell _ _ _ k h3]
  have c1' : ((w.setCell ⟨g, 0, none⟩ (.int .i64 l[n].y.far)).setCell ⟨g, 1, none⟩ (.slice l[n].z l[n].y.ss.length l[n].c)).cell? ⟨B, 1, none⟩ = some (.slice (some ⟨g, 0, none⟩) (n + 1) cap) := by
    rw [World.cell?_setCell_far _ ⟨g, 1, none⟩ ⟨B, 1, none⟩ _ hgB, World.cell?_setCell_far _ ⟨g, 0, none⟩ ⟨B, 1, none⟩ _ hgB]; exact h.c1
  have c0' : ((w.setCell ⟨g, 0, none⟩ (.int .i64 l[n].y.far)).setCell ⟨g, 1, none⟩ (.slice l[n].z l[n].y.ss.length l[n].c)).cell? ⟨B, 0, none⟩ = some (.func (.func 96) #[] #[]) := by
    rw [World.cell?_setCell_far _ ⟨g, 1, none⟩ ⟨B, 0, none⟩ _ hgB, World.cell?_setCell_far _ ⟨g, 0, none⟩ ⟨B, 0, none⟩ _ hgB]; exact h.c0
  have hl := h.len
  have ot : OwnT w (some g) := fun g' e => by
    have : g' = g := by simpa using e.symm
    subst this
    exact trail_block h.own
  refine ⟨⟨popL_len hl, by simp [go_sem, c0'], by simp [go_sem, c1'], ?_, ?_, hlo, ?_, by have := h.few; omega, ?_⟩, hk⟩
  · rw [World.frozen?_setCell, World.frozen?_setCell, World.frozen?_setCell]; exact h.f1
  · refine ownsRow_setCell_below ?_ (by show B < base; exact hlo) _
    have h2 := ((h.own.stored 0 (.int .i64 l[n].y.far)).1.stored 1 (.slice l[n].z l[n].y.ss.length l[n].c)).1
    have h3 := owns_less h2
    have e : itCells (popL l n) = (((itCells l).set 0 (.int .i64 l[n].y.far)).set 1 (.slice l[n].z l[n].y.ss.length l[n].c)).take (n * 2) := by
      unfold popL
      rw [itCells_take, show l.getD n default = l[n] from by simp [List.getD_eq_getElem?_getD, hn], itCells_set l 0 _ (by omega)]
    rw [e]
    exact h3
  · intro x hx
    have hx' : x ∈ l := (popL_mem hl x).2 (.inr hx)
    exact ⟨(h.st x hx').1.kept2 hk h.tB ot, (h.st x hx').2⟩
  · refine set_obj fun cur fz e => h.tB cur fz ?_
    rw [Below.heap_setCell _ _ _ B (fun e => hgB e.symm), Below.heap_setCell _ _ _ B (fun e => hgB e.symm)] at e
    exact e
theorem some_ne {a b : Nat} (h : a ≠ b) : some a ≠ some b := fun e => h (by simpa using e)
/-- A box that is neither the heap's nor a row's is written into. -/
theorem StRow.box {w : World} {z ss} (h : StRow w z ss) {b o : Nat} (hb : ∀ cur fz, w.heap[b]? ≠ some (.cells cur 132 fz)) (u : Value) : StRow (w.setCell ⟨b, o, none⟩ u) z ss := by
  have hne : ∀ c i, z = some ⟨c, i, none⟩ → b ≠ c := fun c i e hbc => by
    obtain ⟨cur, fz, hc⟩ := h.2 c i e
    subst hbc
    exact hb _ _ hc
  refine ⟨ends_set h.1 hne u, fun c i e => ?_⟩
  obtain ⟨cur, fz, hc⟩ := h.2 c i e
  refine ⟨cur, fz, ?_⟩
  rw [Below.heap_setCell _ _ _ c (fun e' => hne c i e e'.symm)]
  exact hc
theorem HpAt.box {w : World} {B base n : Nat} {v : Value} {l : List It} (h : HpAt w B base v n l) {b o : Nat} (hB : b ≠ B) (ho : some b ≠ v.ownBlock) (hb : ∀ cur fz, w.heap[b]? ≠ some (.cells cur 132 fz)) (u : Value) : HpAt (w.setCell ⟨b, o, none⟩ u) B base v n l := by
  have e : ∀ i, (w.setCell ⟨b, o, none⟩ u).cell? ⟨B, i, none⟩ = w.cell? ⟨B, i, none⟩ := fun i => World.cell?_setCell_far w ⟨b, o, none⟩ ⟨B, i, none⟩ u hB
  refine ⟨h.len, (e 0).trans h.c0, (e 1).trans h.c1, by rw [World.frozen?_setCell]; exact h.f1, ⟨h.own.1, ?_⟩, h.lo, fun i hi => ⟨(h.st i hi).1.box hb u, (h.st i hi).2⟩, h.few, fun cur fz e => h.tB cur fz (by rw [← Below.heap_setCell w ⟨b, o, none⟩ u B (fun e => hB e.symm)]; exact e)⟩
  rcases h.own.2 with h' | ⟨g, cap, cur, hv, hbg, hg, rest⟩
  · exact .inl h'
  · refine .inr ⟨g, cap, cur, hv, hbg, ?_, rest⟩
    have hbg' : g ≠ b := fun e => ho (by rw [hv, ← e]; rfl)
    rw [Below.heap_setCell w ⟨b, o, none⟩ u g hbg']
    exact hg
theorem Kept2.box {B : Nat} {og : Option Nat} {w w' : World} (h : Kept2 B og w w') {b o : Nat} (hb : w.heap.size ≤ b) (u : Value) : Kept2 B og w (w'.setCell ⟨b, o, none⟩ u) :=
  ⟨h.os, h.tape, h.output, by simp; exact h.size, fun k hk h1 h2 => by rw [Below.heap_setCell _ _ _ k (by show k ≠ b; omega)]; exact h.block k hk h1 h2⟩
theorem pop_any (B base g cap n : Nat) (l : List It) (w : World) (h : HpAt w B base (.slice (some ⟨g, 0, none⟩) (n + 1) cap) (n + 1) l) (hok : HeapOk leI (itF l) (n + 1)) :
    Calls Tryz.prog 101 #[.pointer (some ⟨B, 0, none⟩)] w fun e w' =>
    ∃ (x : It) (l' : List It), e = .returned (.agg #[.int .i64 x.y.far, .slice x.z x.y.ss.length x.c]) ∧ HpAt w' B base (.slice (some ⟨g, 0, none⟩) n cap) n l' ∧ (∀ y, y ∈ l ↔ y = x ∨ y ∈ l') ∧ HeapOk leI (itF l') n ∧ Kept2 B (some g) w w' ∧ (∀ y ∈ l, leI x y) ∧ StRow w' x.z x.y.ss := by
  have HH := hide h
  have hl := h.len
  have hfew := h.few
  have h0l : 0 < l.length := by omega
  have hnl : n < l.length := by omega
  have HTOP := hide (show ∀ y ∈ l, leI (itF l 0) y from fun y hy => by
    obtain ⟨k, hk, rfl⟩ := List.getElem_of_mem hy
    rw [← itF_at hk]
    exact heap_top (le := leI) (fun a => leW_refl a.y) leI_trans hok k (by omega))
  have HPM := hide (popL_mem hl)
  have HPD := hide (popL_down hl hok)
  have HIT := hide (itF_at h0l)
  have HST := hide (h.st l[0] (List.getElem_mem h0l))
  have HOT := hide (show OwnT w (some g) from fun g' e => by
    have : g' = g := by simpa using e.symm
    subst this
    exact trail_block h.own)
  have HTB := hide h.tB
  have hbl := base_le h.own
  have hlo := h.lo
  obtain ⟨a0, a1, _, _⟩ := h.at h0l
  simp only [Nat.zero_mul, Nat.zero_add] at a0 a1
  have c1 := h.c1
  clear h hok
  have hn1 : (0 : Int) < ((n + 1 : Nat) : Int) := by omega
  have hcB := cell_lt c1
  have hgl := cell_lt a0
  generalize hx0 : l[0] = x at *
  obtain ⟨⟨xf, xs⟩, xz, xc⟩ := x
  dsimp only at *
  clear hx0
  go_enter Tryz.func101, Tryz.ntmps101
  go_upto_region 3 with fail
  have hA := ((Below.refl w.heap.size w).alloc (Nat.le_refl _) (.cells #[.int .i64 0, .slice none 0 0] 101)).alloc (by simp) (.cells #[.int .i64 xf, .slice xz xs.length xc] 101)
  have r0 : ((w.alloc (.cells #[.int .i64 0, .slice none 0 0] 101)).alloc (.cells #[.int .i64 xf, .slice xz xs.length xc] 101)).cell? ⟨w.heap.size, 0, none⟩ = some (.int .i64 0) := by simp [go_sem]
  have r1 : ((w.alloc (.cells #[.int .i64 0, .slice none 0 0] 101)).alloc (.cells #[.int .i64 xf, .slice xz xs.length xc] 101)).cell? ⟨w.heap.size, 1, none⟩ = some (.slice none 0 0) := by simp [go_sem]
  have e0 : ((w.alloc (.cells #[.int .i64 0, .slice none 0 0] 101)).alloc (.cells #[.int .i64 xf, .slice xz xs.length xc] 101)).cell? ⟨w.heap.size + 1, 0, none⟩ = some (.int .i64 xf) := by simp [go_sem]
  have e1 : ((w.alloc (.cells #[.int .i64 0, .slice none 0 0] 101)).alloc (.cells #[.int .i64 xf, .slice xz xs.length xc] 101)).cell? ⟨w.heap.size + 1, 1, none⟩ = some (.slice xz xs.length xc) := by simp [go_sem]
  have fr : ∀ i, ((w.alloc (.cells #[.int .i64 0, .slice none 0 0] 101)).alloc (.cells #[.int .i64 xf, .slice xz xs.length xc] 101)).frozen? ⟨w.heap.size, i, none⟩ = false := fun i => by simp [go_sem]
  have HH1 := hide (HH.out.later hA)
  have HK1 := hide (Kept2.of_below (B := B) (og := some g) hA)
  have HBT : Hid (∀ cur fz, ((w.alloc (.cells #[.int .i64 0, .slice none 0 0] 101)).alloc (.cells #[.int .i64 xf, .slice xz xs.length xc] 101)).heap[w.heap.size]? ≠ some (.cells cur 132 fz)) := fun cur fz e => by
    rw [((Below.refl _ (w.alloc (.cells #[.int .i64 0, .slice none 0 0] 101))).alloc (Nat.le_refl _) (.cells #[.int .i64 xf, .slice xz xs.length xc] 101)).block w.heap.size (by simp), heap_alloc_new] at e
    simp at e
  have HOG1 := hide (trail_block HH1.out.own)
  generalize ((w.alloc (.cells #[.int .i64 0, .slice none 0 0] 101)).alloc (.cells #[.int .i64 xf, .slice xz xs.length xc] 101)) = w1 at *
  have c1 := HH1.out.c1
  have hb1 := base_le HH1.out.own
  have hcap : n + 1 ≤ cap := by
    rcases HH1.out.own.2 with ⟨h, _⟩ | ⟨g', cap', cur, hv, _, _, h, _⟩
    · cases h
    · have : cap = cap' := by simp at hv; exact hv.2
      omega
  have hpp := HH1.out.popped hnl
  obtain ⟨q0, q1, fz, _⟩ := HH1.out.at hnl
  obtain ⟨v0, v1, _, _⟩ := HH1.out.at h0l
  simp only [Nat.zero_mul, Nat.zero_add] at v0 v1
  have hfB := HH1.out.f1
  generalize l[n] = y at *
  obtain ⟨⟨yf, ys⟩, yz, yc⟩ := y
  dsimp only at *
  have HPP := hide hpp
  have z0 := fz 0
  have z1 := fz 1
  have hr0 := fr 0
  have hr1 := fr 1
  have hls := cell_lt e0
  have hni : (n : Int) < ((n + 1 : Nat) : Int) := by omega
  have hni2 : (n : Int) < (n : Int) + 1 := by omega
  have hw : w.heap.size ≠ B := by omega
  have hgB : g ≠ B := by omega
  have hBg : B ≠ g := by omega
  clear hpp fz fr hA a0 a1 HH HH1
  go_region
  all_goals
    go_upto_region 5 with fail
    have HP2 := hide (HPP.out.1.later (w' := ((((w1.setCell ⟨g, 0, none⟩ (.int .i64 yf)).setCell ⟨g, 1, none⟩ (.slice yz ys.length yc)).setCell ⟨B, 1, none⟩ (.slice (some ⟨g, 0, none⟩) n cap)).drew)) ((Below.refl _ _).drew))
    have HKQ := hide (show Kept2 B (some g) w1 ((((w1.setCell ⟨g, 0, none⟩ (.int .i64 yf)).setCell ⟨g, 1, none⟩ (.slice yz ys.length yc)).setCell ⟨B, 1, none⟩ (.slice (some ⟨g, 0, none⟩) n cap)).drew) from ⟨HPP.out.2.os, HPP.out.2.tape, HPP.out.2.output, HPP.out.2.size, HPP.out.2.block⟩)
    generalize ((((w1.setCell ⟨g, 0, none⟩ (.int .i64 yf)).setCell ⟨g, 1, none⟩ (.slice yz ys.length yc)).setCell ⟨B, 1, none⟩ (.slice (some ⟨g, 0, none⟩) n cap)).drew) = w2 at *
    clear HPP q0 q1 v0 v1 z0 z1 c1 hfB
    have HOG := hide (show OwnT w1 (some g) from fun g' e => by
      have : g' = g := by simpa using e.symm
      subst this
      exact HOG1.out)
    go_cut [39] (fun _ wx => ∃ l4, Hid (HpAt wx B base (.slice (some ⟨g, 0, none⟩) n cap) n l4) ∧ Hid (∀ y, y ∈ l4 ↔ y ∈ popL l n) ∧ Hid (HeapOk leI (itF l4) n) ∧ Hid (Kept2 B (some g) w1 wx))
    case first =>
      by_cases h0 : n = 0
      · subst h0
        have HS := hide (sink_none B base g cap _ w2 HP2.out)
        go_wp2_with fail
        refine HS.out.mono ?_
        rintro e w3 ⟨rfl, rfl⟩
        go_wp2_with fail
        go_meet
        case rel => exact ⟨_, HP2, fun y => Iff.rfl, (fun j h0 h1 => by omega), HKQ⟩
      · have HS := hide (sink_any B base g cap n 0 _ w2 HP2.out (by omega) HPD.out)
        clear h0
        go_wp2_with fail
        refine HS.out.mono ?_
        rintro e w3 ⟨rfl, l4, hh4, hm4, ho4, hmid4⟩
        have HRES := hide (And.intro hh4 (And.intro hm4 (And.intro ho4 (HKQ.out.trans (Kept2.of_mid (B := B) hmid4) (.inl rfl)))))
        clear hh4 hm4 ho4 hmid4
        go_wp2_with fail
        go_meet
        case rel => exact ⟨l4, HRES.out.1, HRES.out.2.1, HRES.out.2.2.1, HRES.out.2.2.2⟩
    case rest =>
      obtain ⟨l4, HH4, HM4, HO4, HKA⟩ := hcut
      rename World => w4
      have HK4 := hide (HK1.out.trans HKA.out (.inl rfl))
      have HBX := hide (show ∀ cur fz, w4.heap[w.heap.size]? ≠ some (.cells cur 132 fz) from fun cur fz e => HBT.out cur fz (by
        rw [← HKA.out.block w.heap.size (by omega) (by omega) (some_ne (by omega))]
        exact e))
      have HST4 := hide (HST.out.1.kept2 HK4.out HTB.out HOT.out)
      have e0 := HKA.out.cell (show w.heap.size + 1 ≠ B by omega) (some_ne (by omega)) e0
      have e1 := HKA.out.cell (show w.heap.size + 1 ≠ B by omega) (some_ne (by omega)) e1
      have r0 := HKA.out.cell (show w.heap.size ≠ B by omega) (some_ne (by omega)) r0
      have r1 := HKA.out.cell (show w.heap.size ≠ B by omega) (some_ne (by omega)) r1
      have hr0 := (World.frozen?_of_block (a := ⟨w.heap.size, 0, none⟩) (HKA.out.block w.heap.size (by omega) (by omega) (some_ne (by omega)))).trans hr0
      have hr1 := (World.frozen?_of_block (a := ⟨w.heap.size, 1, none⟩) (HKA.out.block w.heap.size (by omega) (by omega) (some_ne (by omega)))).trans hr1
      have hl4 := cell_lt r0
      go_wp2_with fail
      refine bodyPost_ret (v := .agg #[.int .i64 xf, .slice xz xs.length xc]) (by simp [results, Tryz.results101, go_sem, r0, r1]) rfl ⟨⟨⟨xf, xs⟩, xz, xc⟩, l4, rfl, ?_, ?_, HO4.out, ?_, ?_, ?_⟩
      · exact (HH4.out.box (b := w.heap.size) (by omega) (show some w.heap.size ≠ some g from some_ne (by omega)) HBX.out _).box (b := w.heap.size) (by omega) (show some w.heap.size ≠ some g from some_ne (by omega)) (set_obj HBX.out) _
      · intro y
        rw [HPM.out y, HIT.out, HM4.out y]
      · exact (HK4.out.box (Nat.le_refl _) _).box (Nat.le_refl _) _
      · intro y hy
        have := HTOP.out y hy
        rw [HIT.out] at this
        exact this
      · exact (HST4.out.box HBX.out _).box (set_obj HBX.out) _
end Go.Proofs.YtijdigdcmjdooaaGreat

/- Drawn tracks: plain, and how one lies in memory while it is made. Own work. -/
import Derived.Test.YteapmddadieohaaMxAC
import Derived.Test.YteapmddadieohaaDrS
import Derived.Deep.AppendLies
namespace Go.Proofs.Yteapmddadieohaa
open Go.RowKit
set_option maxHeartbeats 1000000

/-! ### Plain -/
def pcLen (code : List Int) (small : Int) (c : Cu) : Int := if small = 0 then 1 + pickV code 4 (wideC code c) else 1 + wideV code 300 c
def pcC2 (code : List Int) (small : Int) (c : Cu) : Cu := if small = 0 then pickC code 4 (wideC code c) else wideC code c
def pcDraw (code : List Int) (small : Int) (i : Nat) (c : Cu) : Pc := ⟨nameP i, pcLen code small c, 1 + pickV code 200 (pcC2 code small c), 1 + pickV code 90 (pickC code 200 (pcC2 code small c))⟩
def pcNext (code : List Int) (small : Int) (c : Cu) : Cu := pickC code 90 (pickC code 200 (pcC2 code small c))
def pcsTo (code : List Int) (small : Int) (c0 : Cu) : Nat → List Pc × Cu
  | 0 => ([], c0)
  | i + 1 => ((pcsTo code small c0 i).1 ++ [pcDraw code small i (pcsTo code small c0 i).2], pcNext code small (pcsTo code small c0 i).2)
def endsTo : Nat → List (Int × Int)
  | 0 => []
  | i + 1 => endsTo i ++ [((i : Int), 0), ((i : Int), 1)]
theorem endsTo_len (i : Nat) : (endsTo i).length = 2 * i := by
  induction i with
  | zero => rfl
  | succ i ih => simp [endsTo, ih]; omega
theorem pcsTo_len (code : List Int) (small : Int) (c0 : Cu) (i : Nat) : (pcsTo code small c0 i).1.length = i := by
  induction i with
  | zero => rfl
  | succ i ih => simp [pcsTo, ih]
theorem pcC2_at (code : List Int) (small : Int) (c : Cu) : (pcC2 code small c).at' ≤ c.at' + 4 := by
  unfold pcC2
  have := wideC_at code c
  have := pickC_at code 4 (wideC code c)
  split <;> omega
theorem pcNext_at (code : List Int) (small : Int) (c : Cu) : (pcNext code small c).at' ≤ c.at' + 8 := by
  unfold pcNext
  have := pcC2_at code small c
  have := pickC_at code 200 (pcC2 code small c)
  have := pickC_at code 90 (pickC code 200 (pcC2 code small c))
  omega
theorem pcsTo_at (code : List Int) (small : Int) (c0 : Cu) (i : Nat) : (pcsTo code small c0 i).2.at' ≤ c0.at' + 8 * i := by
  induction i with
  | zero => exact Nat.le_refl _
  | succ i ih =>
    have := pcNext_at code small (pcsTo code small c0 i).2
    simp only [pcsTo]
    omega
theorem pcLen_bd (code : List Int) (small : Int) (c : Cu) : 1 ≤ pcLen code small c ∧ pcLen code small c ≤ 300 := by
  unfold pcLen
  have := pickV_bd (code := code) (n := 4) (by omega) (wideC code c)
  have := wideV_bd (code := code) (n := 300) (by omega) c
  split <;> omega

/-! ### Rows -/
def pcCells (ps : List Pc) : List Value := ps.flatMap fun p => [.string p.name, .int .i64 p.len, .int .i64 p.speed, .int .i64 p.brake]
def endCells (es : List (Int × Int)) : List Value := es.flatMap fun e => [.int .i64 e.1, .int .i64 e.2]
theorem pcCells_add (ps : List Pc) (p : Pc) : pcCells (ps ++ [p]) = pcCells ps ++ [.string p.name, .int .i64 p.len, .int .i64 p.speed, .int .i64 p.brake] := by simp [pcCells]
theorem endCells_add (es : List (Int × Int)) (e f : Int × Int) : endCells (es ++ [e, f]) = endCells es ++ [.int .i64 e.1, .int .i64 e.2, .int .i64 f.1, .int .i64 f.2] := by simp [endCells]
theorem endCells_add1 (es : List (Int × Int)) (e : Int × Int) : endCells (es ++ [e]) = endCells es ++ [.int .i64 e.1, .int .i64 e.2] := by simp [endCells]

theorem Mid.setNew {B C : Nat} {w w2 : World} (h : Mid B C w w2) {b o : Nat} (hb : w.heap.size ≤ b) (u : Value) : Mid B C w (w2.setCell ⟨b, o, none⟩ u) :=
  ⟨h.os, h.tape, h.output, by simpa [World.setCell] using h.size, fun k hk hc => (Below.heap_setCell _ _ _ _ (by show k ≠ b; omega)).trans (h.block k hk hc)⟩
theorem Mid.grown {B C : Nat} {w w2 w3 : World} {row : Option Nat} (h : Mid B C w w2) (hg : w2.grownBy w3 row) (hrow : ∀ g, row = some g → w.heap.size ≤ g) : Mid B C w w3 :=
  ⟨hg.os.trans h.os, hg.tape.trans h.tape, hg.output.trans h.output, Nat.le_trans h.size hg.size, fun k hk hc => (hg.block k (Nat.lt_of_lt_of_le hk h.size) (fun e => by have := hrow k e.symm; omega)).trans (h.block k hk hc)⟩
theorem Mid.frozen {B C : Nat} {w w' : World} (h : Mid B C w w') {b o : Nat} {v : Value} (hb : b < B ∨ C ≤ b) (hc : w.cell? ⟨b, o, none⟩ = some v) (hf : w.frozen? ⟨b, o, none⟩ = false) : w'.frozen? ⟨b, o, none⟩ = false := by
  rw [World.frozen?_of_block (w := w) (w' := w') (a := ⟨b, o, none⟩) (h.block b (cell_lt hc) hb)]; exact hf
theorem owns_mid {B C : Nat} {w w' : World} {base : Nat} {e : TypeId} {size : Nat} {v : Value} {n : Nat} {xs : List Value} (h : w.ownsRow base e size v n xs) (hm : Mid B C w w') (hC : C ≤ base) : w'.ownsRow base e size v n xs := by
  refine ⟨h.1, ?_⟩
  rcases h.2 with h | ⟨g, cap, cur, hv, hbg, hg, rest⟩
  · exact .inl h
  · exact .inr ⟨g, cap, cur, hv, hbg, by rw [hm.block g (Array.getElem?_eq_some_iff.1 hg).1 (.inr (by omega))]; exact hg, rest⟩
/-- Rows of two kinds are two rows. -/
theorem owns_ne {w : World} {base base' : Nat} {e e' : TypeId} {size size' : Nat} {v v' : Value} {n n' : Nat} {xs xs' : List Value} (h : w.ownsRow base e size v n xs) (h' : w.ownsRow base' e' size' v' n' xs') (hne : e ≠ e') : v.ownBlock = none ∨ v.ownBlock ≠ v'.ownBlock := by
  rcases h.2 with ⟨rfl, _⟩ | ⟨g, cap, cur, rfl, _, hg, _⟩
  · exact .inl rfl
  · rcases h'.2 with ⟨rfl, _⟩ | ⟨g', cap', cur', rfl, _, hg', _⟩
    · exact .inr (by simp [Value.ownBlock])
    · refine .inr ?_
      intro he
      have : g = g' := by simpa [Value.ownBlock] using he
      subst this
      rw [hg] at hg'
      injection hg' with hg'
      injection hg' with _ h2 _
      exact hne h2
theorem owns_kept {w w' : World} {base base' : Nat} {e e' : TypeId} {size size' : Nat} {v v' : Value} {n n' : Nat} {xs xs' : List Value} (h : w.ownsRow base e size v n xs) (h' : w.ownsRow base' e' size' v' n' xs') (hne : e ≠ e') (hg : w.grownBy w' v'.ownBlock) : w'.ownsRow base e size v n xs := h.kept hg (owns_ne h h' hne)
theorem infos {P : Program} {T : TypeId} {z : Value} {s b : Nat} (h : (P.info? T).map (fun i => (i.zero, i.size, i.bytes)) = some (some z, s, b)) : ∃ i, P.info? T = some i ∧ i.zero = some z ∧ i.size = s ∧ i.bytes = b := by
  cases hh : P.info? T with
  | none => rw [hh] at h; simp at h
  | some i =>
    rw [hh] at h
    simp only [Option.map_some, Option.some.injEq, Prod.mk.injEq] at h
    exact ⟨i, rfl, h.1, h.2.1, h.2.2⟩

/-! ### While a track is made: the reader, the result's box, the track's box -/
structure NW (w wr : World) (b : Nat) (a : Option Addr) (code : List Int) (cap : Nat) (c : Cu) (pv jv : Value) : Prop where
  cur : CurAt wr b a code.length cap c
  bys : BytesAt wr a code
  r0 : wr.cell? ⟨w.heap.size, 0, none⟩ = some (.slice none 0 0)
  r1 : wr.cell? ⟨w.heap.size, 1, none⟩ = some (.slice none 0 0)
  rf0 : wr.frozen? ⟨w.heap.size, 0, none⟩ = false
  rf1 : wr.frozen? ⟨w.heap.size, 1, none⟩ = false
  n0 : wr.cell? ⟨w.heap.size + 1, 0, none⟩ = some pv
  n1 : wr.cell? ⟨w.heap.size + 1, 1, none⟩ = some jv
  nf0 : wr.frozen? ⟨w.heap.size + 1, 0, none⟩ = false
  nf1 : wr.frozen? ⟨w.heap.size + 1, 1, none⟩ = false
  mid : Mid b (b + 1) w wr
  bw : b < w.heap.size
  off : OffB a code.length b

section
variable {w wr : World} {b : Nat} {a : Option Addr} {code : List Int} {cap : Nat} {c : Cu} {pv jv : Value}
theorem NW.size (h : NW w wr b a code cap c pv jv) : w.heap.size + 2 ≤ wr.heap.size := cell_lt h.n0
theorem NW.later {w2 : World} (h : NW w wr b a code cap c pv jv) (hb : Below wr.heap.size wr w2) : NW w w2 b a code cap c pv jv where
  cur := h.cur.later hb
  bys := h.bys.later hb
  r0 := cell_later' hb h.r0
  r1 := cell_later' hb h.r1
  rf0 := frozen_later hb h.r0 h.rf0
  rf1 := frozen_later hb h.r1 h.rf1
  n0 := cell_later' hb h.n0
  n1 := cell_later' hb h.n1
  nf0 := frozen_later hb h.n0 h.nf0
  nf1 := frozen_later hb h.n1 h.nf1
  mid := h.mid.trans (Mid.of_below hb)
  bw := h.bw
  off := h.off
theorem NW.call {w2 : World} {c2 : Cu} (h : NW w wr b a code cap c pv jv) (hc : CurAt w2 b a code.length cap c2) (hm : Mid b (b + 1) wr w2) : NW w w2 b a code cap c2 pv jv := by
  have hb := h.bw
  exact { cur := hc
          bys := h.bys.mid hm h.off
          r0 := hm.cell (.inr (by omega)) h.r0
          r1 := hm.cell (.inr (by omega)) h.r1
          rf0 := hm.frozen (.inr (by omega)) h.r0 h.rf0
          rf1 := hm.frozen (.inr (by omega)) h.r1 h.rf1
          n0 := hm.cell (.inr (by omega)) h.n0
          n1 := hm.cell (.inr (by omega)) h.n1
          nf0 := hm.frozen (.inr (by omega)) h.n0 h.nf0
          nf1 := hm.frozen (.inr (by omega)) h.n1 h.nf1
          mid := h.mid.trans hm
          bw := h.bw
          off := h.off }
theorem NW.grown {w2 : World} {row : Option Nat} (h : NW w wr b a code cap c pv jv) (hg : wr.grownBy w2 row) (hrow : ∀ g, row = some g → w.heap.size + 2 ≤ g) : NW w w2 b a code cap c pv jv := by
  have hb := h.bw
  have hne : ∀ B, B < w.heap.size + 2 → some B ≠ row := fun B hB e => by have := hrow B e.symm; omega
  have hc : ∀ (B o : Nat) (v : Value), B < w.heap.size + 2 → wr.cell? ⟨B, o, none⟩ = some v → w2.cell? ⟨B, o, none⟩ = some v := fun B o v hB hv => hg.cell hv (hne B hB)
  have hf : ∀ (B o : Nat) (v : Value), B < w.heap.size + 2 → wr.cell? ⟨B, o, none⟩ = some v → wr.frozen? ⟨B, o, none⟩ = false → w2.frozen? ⟨B, o, none⟩ = false := fun B o v hB hv hz => by
    rw [hg.frozen_far ⟨B, o, none⟩ (cell_lt hv) (hne B hB)]; exact hz
  have hcur := h.cur
  exact { cur := ⟨hc _ _ _ (by omega) hcur.c0, hc _ _ _ (by omega) hcur.c1, hc _ _ _ (by omega) hcur.c2, hf _ _ _ (by omega) hcur.c1 hcur.f1, hf _ _ _ (by omega) hcur.c2 hcur.f2⟩
          bys := fun k hk => by
            obtain ⟨xb, xo, ha, hx⟩ := h.bys k hk
            have := h.off xb xo ha
            exact ⟨xb, xo, ha, hc _ _ _ (by omega) hx⟩
          r0 := hc _ _ _ (by omega) h.r0
          r1 := hc _ _ _ (by omega) h.r1
          rf0 := hf _ _ _ (by omega) h.r0 h.rf0
          rf1 := hf _ _ _ (by omega) h.r1 h.rf1
          n0 := hc _ _ _ (by omega) h.n0
          n1 := hc _ _ _ (by omega) h.n1
          nf0 := hf _ _ _ (by omega) h.n0 h.nf0
          nf1 := hf _ _ _ (by omega) h.n1 h.nf1
          mid := h.mid.grown hg (fun g e => by have := hrow g e; omega)
          bw := h.bw
          off := h.off }
theorem NW.set0 (h : NW w wr b a code cap c pv jv) (v : Value) : NW w (wr.setCell ⟨w.heap.size + 1, 0, none⟩ v) b a code cap c v jv := by
  have hb := h.bw
  have far : ∀ (B o : Nat) (u : Value), B ≠ w.heap.size + 1 → wr.cell? ⟨B, o, none⟩ = some u → (wr.setCell ⟨w.heap.size + 1, 0, none⟩ v).cell? ⟨B, o, none⟩ = some u := fun B o u hB hu => by
    rw [World.cell?_setCell_far wr ⟨w.heap.size + 1, 0, none⟩ ⟨B, o, none⟩ v (by show w.heap.size + 1 ≠ B; omega)]; exact hu
  have frz : ∀ (B o : Nat), wr.frozen? ⟨B, o, none⟩ = false → (wr.setCell ⟨w.heap.size + 1, 0, none⟩ v).frozen? ⟨B, o, none⟩ = false := fun B o hB => by simp [go_sem, hB]
  have hcur := h.cur
  exact { cur := ⟨far _ _ _ (by omega) hcur.c0, far _ _ _ (by omega) hcur.c1, far _ _ _ (by omega) hcur.c2, frz _ _ hcur.f1, frz _ _ hcur.f2⟩
          bys := fun k hk => by
            obtain ⟨xb, xo, ha, hx⟩ := h.bys k hk
            have := h.off xb xo ha
            exact ⟨xb, xo, ha, far _ _ _ (by omega) hx⟩
          r0 := far _ _ _ (by omega) h.r0
          r1 := far _ _ _ (by omega) h.r1
          rf0 := frz _ _ h.rf0
          rf1 := frz _ _ h.rf1
          n0 := by simp [go_sem, h.n0]
          n1 := by simp [go_sem, h.n1]
          nf0 := frz _ _ h.nf0
          nf1 := frz _ _ h.nf1
          mid := h.mid.setNew (by omega) v
          bw := h.bw
          off := h.off }
theorem NW.set1 (h : NW w wr b a code cap c pv jv) (v : Value) : NW w (wr.setCell ⟨w.heap.size + 1, 1, none⟩ v) b a code cap c pv v := by
  have hb := h.bw
  have far : ∀ (B o : Nat) (u : Value), B ≠ w.heap.size + 1 → wr.cell? ⟨B, o, none⟩ = some u → (wr.setCell ⟨w.heap.size + 1, 1, none⟩ v).cell? ⟨B, o, none⟩ = some u := fun B o u hB hu => by
    rw [World.cell?_setCell_far wr ⟨w.heap.size + 1, 1, none⟩ ⟨B, o, none⟩ v (by show w.heap.size + 1 ≠ B; omega)]; exact hu
  have frz : ∀ (B o : Nat), wr.frozen? ⟨B, o, none⟩ = false → (wr.setCell ⟨w.heap.size + 1, 1, none⟩ v).frozen? ⟨B, o, none⟩ = false := fun B o hB => by simp [go_sem, hB]
  have hcur := h.cur
  exact { cur := ⟨far _ _ _ (by omega) hcur.c0, far _ _ _ (by omega) hcur.c1, far _ _ _ (by omega) hcur.c2, frz _ _ hcur.f1, frz _ _ hcur.f2⟩
          bys := fun k hk => by
            obtain ⟨xb, xo, ha, hx⟩ := h.bys k hk
            have := h.off xb xo ha
            exact ⟨xb, xo, ha, far _ _ _ (by omega) hx⟩
          r0 := far _ _ _ (by omega) h.r0
          r1 := far _ _ _ (by omega) h.r1
          rf0 := frz _ _ h.rf0
          rf1 := frz _ _ h.rf1
          n0 := by simp [go_sem, h.n0]
          n1 := by simp [go_sem, h.n1]
          nf0 := frz _ _ h.nf0
          nf1 := frz _ _ h.nf1
          mid := h.mid.setNew (by omega) v
          bw := h.bw
          off := h.off }
/-- A store into a block that is none of these. -/
theorem NW.setOther (h : NW w wr b a code cap c pv jv) {B o : Nat} (hB : w.heap.size + 2 ≤ B) (v : Value) : NW w (wr.setCell ⟨B, o, none⟩ v) b a code cap c pv jv := by
  have hb := h.bw
  have far : ∀ (D i : Nat) (u : Value), D < w.heap.size + 2 → wr.cell? ⟨D, i, none⟩ = some u → (wr.setCell ⟨B, o, none⟩ v).cell? ⟨D, i, none⟩ = some u := fun D i u hD hu => by
    rw [World.cell?_setCell_far wr ⟨B, o, none⟩ ⟨D, i, none⟩ v (by show B ≠ D; omega)]; exact hu
  have frz : ∀ (D i : Nat), wr.frozen? ⟨D, i, none⟩ = false → (wr.setCell ⟨B, o, none⟩ v).frozen? ⟨D, i, none⟩ = false := fun D i hD => by simp [go_sem, hD]
  have hcur := h.cur
  exact { cur := ⟨far _ _ _ (by omega) hcur.c0, far _ _ _ (by omega) hcur.c1, far _ _ _ (by omega) hcur.c2, frz _ _ hcur.f1, frz _ _ hcur.f2⟩
          bys := fun k hk => by
            obtain ⟨xb, xo, ha, hx⟩ := h.bys k hk
            have := h.off xb xo ha
            exact ⟨xb, xo, ha, far _ _ _ (by omega) hx⟩
          r0 := far _ _ _ (by omega) h.r0
          r1 := far _ _ _ (by omega) h.r1
          rf0 := frz _ _ h.rf0
          rf1 := frz _ _ h.rf1
          n0 := far _ _ _ (by omega) h.n0
          n1 := far _ _ _ (by omega) h.n1
          nf0 := frz _ _ h.nf0
          nf1 := frz _ _ h.nf1
          mid := h.mid.setNew (by omega) v
          bw := h.bw
          off := h.off }
end
end Go.Proofs.Yteapmddadieohaa

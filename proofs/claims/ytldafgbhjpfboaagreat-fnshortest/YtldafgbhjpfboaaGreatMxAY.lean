/- Drawn tracks: plain, and how one lies in memory while it is made. Own work. -/
import Derived.Test.YtldafgbhjpfboaaGreatMxAX
import Derived.Test.YtldafgbhjpfboaaGreatDrS
import Derived.Deep.AppendLies
import Derived.Test.YtldafgbhjpfboaaGreatMxAA
namespace Go.Proofs.YtldafgbhjpfboaaGreat
open Go.RowKit
set_option maxHeartbeats 1000000

/-! ### Plain -/
def pcLen (code : List Int) (small : Int) (c : Cu) : Int := if small = 0 then 1 + pickV code 4 (wideC code c) else 1 + wideV code 300 c
def pcC2 (code : List Int) (small : Int) (c : Cu) : Cu := if small = 0 then pickC code 4 (wideC code c) else wideC code c
def pcDraw (code : List Int) (small : Int) (i : Nat) (c : Cu) : Pc := ⟨nameP i, pcLen code small c, 1 + pickV code 200 (pcC2 code small c), 1 + pickV code 90 (pickC code 200 (pcC2 code small c))⟩
def pcNext (code : List Int) (small : Int) (c : Cu) : Cu := pickC code 90 (pickC code 200 (pcC2 code small c))
def pcsTo (code : List Int) (small : Int) (c0 : Cu) : Nat → List Pc × Cu
  | 0 => ([], c0)
  | i + 1 => ((pcsTo code small c0 i).1 ++ [pcDraw code small i (pcsTo code small c0 i).2], pcNext code small (pcsTo code small c0 i).2)
def endsTo : Nat → List (Int × Int)
  | 0 => []
  | i + 1 => endsTo i ++ [((i : Int), 0), ((i : Int), 1)]
theorem endsTo_len (i : Nat) : (endsTo i).length = 2 * i := by
  induction i with
  | zero => rfl
  | succ i ih => simp [endsTo, ih]; omega
theorem pcsTo_len (code : List Int) (small : Int) (c0 : Cu) (i : Nat) : (pcsTo code small c0 i).1.length = i := by
  induction i with
  | zero => rfl
  | succ i ih => simp [pcsTo, ih]
theorem pcC2_at (code : List Int) (small : Int) (c : Cu) : (pcC2 code small c).at' ≤ c.at' + 4 := by
  unfold pcC2
  have := wideC_at code c
  have := pickC_at code 4 (wideC code c)
  split <;> omega
theorem pcNext_at (code : List Int) (small : Int) (c : Cu) : (pcNext code small c).at' ≤ c.at' + 8 := by
  unfold pcNext
  have := pcC2_at code small c
  have := pickC_at code 200 (pcC2 code small c)
  have := pickC_at code 90 (pickC code 200 (pcC2 code small c))
  omega
theorem pcsTo_at (code : List Int) (small : Int) (c0 : Cu) (i : Nat) : (pcsTo code small c0 i).2.at' ≤ c0.at' + 8 * i := by
  induction i with
  | zero => exact Nat.le_refl _
  | succ i ih =>
    have := pcNext_at code small (pcsTo code small c0 i).2
    simp only [pcsTo]
    omega
theorem pcLen_bd (code : List Int) (small : Int) (c : Cu) : 1 ≤ pcLen code small c ∧ pcLen code small c ≤ 300 := by
  unfold pcLen
  have := pickV_bd (code := code) (n := 4) (by omega) (wideC code c)
  have := wideV_bd (code := code) (n := 300) (by omega) c
  split <;> omega

/-! ### Rows -/
def pcCells (ps : List Pc) : List Value := ps.flatMap fun p => [.string p.name, .int .i64 p.len, .int .i64 p.speed, .int .i64 p.brake]
def endCells (es : List (Int × Int)) : List Value := es.flatMap fun e => [.int .i64 e.1, .int .i64 e.2]
theorem pcCells_add (ps : List Pc) (p : Pc) : pcCells (ps ++ [p]) = pcCells ps ++ [.string p.name, .int .i64 p.len, .int .i64 p.speed, .int .i64 p.brake] := by simp [pcCells]
theorem endCells_add (es : List (Int × Int)) (e f : Int × Int) : endCells (es ++ [e, f]) = endCells es ++ [.int .i64 e.1, .int .i64 e.2, .int .i64 f.1, .int .i64 f.2] := by simp [endCells]
theorem endCells_add1 (es : List (Int × Int)) (e : Int × Int) : endCells (es ++ [e]) = endCells es ++ [.int .i64 e.1, .int .i64 e.2] := by simp [endCells]

theorem Mid.setNew {B C : Nat} {w w2 : World} (h : Mid B C w w2) {b o : Nat} (hb : w.heap.size ≤ b) (u : Value) : Mid B C w (w2.setCell ⟨b, o, none⟩ u) :=
  ⟨h.os, h.tape, h.output, by simpa [World.setCell] using h.size, fun k hk hc => (Below.heap_setCell _ _ _ _ (by show k ≠ b; omega)).trans (h.block k hk hc)⟩
theorem Mid.grown {B C : Nat} {w w2 w3 : World} {row : Option Nat} (h : Mid B C w w2) (hg : w2.grownBy w3 row) (hrow : ∀ g, row = some g → w.heap.size ≤ g) : Mid B C w w3 :=
  ⟨hg.os.trans h.os, hg.tape.trans h.tape, hg.output.trans h.output, Nat.le_trans h.size hg.size, fun k hk hc => (hg.block k (Nat.lt_of_lt_of_le hk h.size) (fun e => by have := hrow k e.symm; omega)).trans (h.block k hk hc)⟩
theorem Mid.frozen {B C : Nat} {w w' : World} (h : Mid B C w w') {b o : Nat} {v : Value} (hb : b < B ∨ C ≤ b) (hc : w.cell? ⟨b, o, none⟩ = some v) (hf : w.frozen? ⟨b, o, none⟩ = false) : w'.frozen? ⟨b, o, none⟩ = false := by
  rw [World.frozen?_of_block (w := w) (w' := w') (a := ⟨b, o, none⟩) (h.block b (cell_lt hc) hb)]; exact hf
theorem owns_mid {B C : Nat} {w w' : World} {base : Nat} {e : TypeId} {size : Nat} {v : Value} {n : Nat} {xs : List Value} (h : w.ownsRow base e size v n xs) (hm : Mid B C w w') (hC : C ≤ base) : w'.ownsRow base e size v n xs := by
  refine ⟨h.1, ?_⟩
  rcases h.2 with h | ⟨g, cap, cur, hv, hbg, hg, rest⟩
  · exact .inl h
  · exact .inr ⟨g, cap, cur, hv, hbg, by rw [hm.block g (Array.getElem?_eq_some_iff.1 hg).1 (.inr (by omega))]; exact hg, rest⟩
/-- Rows of two kinds are two rows. -/
theorem owns_ne {w : World} {base base' : Nat} {e e' : TypeId} {size size' : Nat} {v v' : Value} {n n' : Nat} {xs xs' : List Value} (h : w.ownsRow base e size v n xs) (h' : w.ownsRow base' e' size' v' n' xs') (hne : e ≠ e') : v.ownBlock = none ∨ v.ownBlock ≠ v'.ownBlock := by
  rcases h.2 with ⟨rfl, _⟩ | ⟨g, cap, cur, rfl, _, hg, _⟩
  · exact .inl rfl
  · rcases h'.2 with ⟨rfl, _⟩ | ⟨g', cap', cur', rfl, _, hg', _⟩
    · exact .inr (by simp [Value.ownBlock])
    · refine .inr ?_
      intro he
      have : g = g' := by simpa [Value.ownBlock] using he
      subst this
      rw [hg] at hg'
      injection hg' with hg'
      injection hg' with _ h2 _
      exact hne h2
theorem owns_kept {w w' : World} {base base' : Nat} {e e' : TypeId} {size size' : Nat} {v v' : Value} {n n' : Nat} {xs xs' : List Value} (h : w.ownsRow base e size v n xs) (h' : w.ownsRow base' e' size' v' n' xs') (hne : e ≠ e') (hg : w.grownBy w' v'.ownBlock) : w'.ownsRow base e size v n xs := h.kept hg (owns_ne h h' hne)
theorem infos {P : Program} {T : TypeId} {z : Value} {s b : Nat} (h : (P.info? T).map (fun i => (i.zero, i.size, i.bytes)) = some (some z, s, b)) : ∃ i, P.info? T = some i ∧ i.zero = some z ∧ i.size = s ∧ i.bytes = b := by
  cases hh : P.info? T with
  | none => rw [hh] at h; simp at h
  | some i =>
    rw [hh] at h
    simp only [Option.map_some, Option.some.injEq, Prod.mk.injEq] at h
    exact ⟨i, rfl, h.1, h.2.1, h.2.2⟩

/-! ### While a track is made: the reader, the result's box, the track's box -/
structure NW (w wr : World) (b : Nat) (a : Option Addr) (code : List Int) (cap : Nat) (c : Cu) (pv jv : Value) : Prop where
  cur : CurAt wr b a code.length cap c
  bys : BytesAt wr a code
  r0 : wr.cell? ⟨w.heap.size, 0, none⟩ = some (.slice none 0 0)
  r1 : wr.cell? ⟨w.heap.size, 1, none⟩ = some (.slice none 0 0)
  rf0 : wr.frozen? ⟨w.heap.size, 0, none⟩ = false
  rf1 : wr.frozen? ⟨w.heap.size, 1, none⟩ = false
  n0 : wr.cell? ⟨w.heap.size + 1, 0, none⟩ = some pv
  n1 : wr.cell? ⟨w.heap.size + 1, 1, none⟩ = some jv
  nf0 : wr.frozen? ⟨w.heap.size + 1, 0, none⟩ = false
  nf1 : wr.frozen? ⟨w.heap.size + 1, 1, none⟩ = false
  mid : Mid b (b + 1) w wr
  bw : b < w.heap.size
  off : OffB a code.length b

section
variable {w wr : World} {b : Nat} {a : Option Addr} {code : List Int} {cap : Nat} {c : Cu} {pv jv : Value}
theorem NW.size (h : NW w wr b a code cap c pv jv) : w.heap.size + 2 ≤ wr.heap.size := cell_lt h.n0
theorem NW.later {w2 : World} (h : NW w wr b a code cap c pv jv) (hb : Below wr.heap.size wr w2) : NW w w2 b a code cap c pv jv where
  cur := h.cur.later hb
  bys := h.bys.later hb
  r0 := cell_later' hb h.r0
  r1 := cell_later' hb h.r1
  rf0 := frozen_later hb h.r0 h.rf0
  rf1 := frozen_later hb h.r1 h.rf1
  n0 := cell_later' hb h.n0
  n1 := cell_later' hb h.n1
  nf0 := frozen_later hb h.n0 h.nf0
  nf1 := frozen_later hb h.n1 h.nf1
  mid := h.mid.trans (Mid.of_below hb)
  bw := h.bw
  off := h.off
theorem NW.call {w2 : World} {c2 : Cu} (h : NW w wr b a code cap c pv jv) (hc : CurAt w2 b a code.length cap c2) (hm : Mid b (b + 1) wr w2) : NW w w2 b a code cap c2 pv jv := by
  have hb := h.bw
  exact { cur := hc
          bys := h.bys.mid hm h.off
          r0 := hm.cell (.inr (by omega)) h.r0
          r1 := hm.cell (.inr (by omega)) h.r1
          rf0 := hm.frozen (.inr (by omega)) h.r0 h.rf0
          rf1 := hm.frozen (.inr (by omega)) h.r1 h.rf1
          n0 := hm.cell (.inr (by omega)) h.n0
          n1 := hm.cell (.inr (by omega)) h.n1
          nf0 := hm.frozen (.inr (by omega)) h.n0 h.nf0
          nf1 := hm.frozen (.inr (by omega)) h.n1 h.nf1
          mid := h.mid.trans hm
          bw := h.bw
          off := h.off }
theorem NW.grown {w2 : World} {row : Option Nat} (h : NW w wr b a code cap c pv jv) (hg : wr.grownBy w2 row) (hrow : ∀ g, row = some g → w.heap.size + 2 ≤ g) : NW w w2 b a code cap c pv jv := by
  have hb := h.bw
  have hne : ∀ B, B < w.heap.size + 2 → some B ≠ row := fun B hB e => by have := hrow B e.symm; omega
  have hc : ∀ (B o : Nat) (v : Value), B < w.heap.size + 2 → wr.cell? ⟨B, o, none⟩ = some v → w2.cell? ⟨B, o, none⟩ = some v := fun B o v hB hv => hg.cell hv (hne B hB)
  have hf : ∀ (B o : Nat) (v : Value), B < w.heap.size + 2 → wr.cell? ⟨B, o, none⟩ = some v → wr.frozen? ⟨B, o, none⟩ = false → w2.frozen? ⟨B, o, none⟩ = false := fun B o v hB hv hz => by
    rw [hg.frozen_far ⟨B, o, none⟩ (cell_lt hv) (hne B hB)]; exact hz
  have hcur := h.cur
  exact { cur := ⟨hc _ _ _ (by omega) hcur.c0, hc _ _ _ (by omega) hcur.c1, hc _ _ _ (by omega) hcur.c2, hf _ _ _ (by omega) hcur.c1 hcur.f1, hf _ _ _ (by omega) hcur.c2 hcur.f2⟩
          bys := fun k hk => by
            obtain ⟨xb, xo, ha, hx⟩ := h.bys k hk
            have := h.off xb xo ha
            exact ⟨xb, xo, ha, hc _ _ _ (by omega) hx⟩
          r0 := hc _ _ _ (by omega) h.r0
          r1 := hc _ _ _ (by omega) h.r1
          rf0 := hf _ _ _ (by omega) h.r0 h.rf0
          rf1 := hf _ _ _ (by omega) h.r1 h.rf1
          n0 := hc _ _ _ (by omega) h.n0
          n1 := hc _ _ _ (by omega) h.n1
          nf0 := hf _ _ _ (by omega) h.n0 h.nf0
          nf1 := hf _ _ _ (by omega) h.n1 h.nf1
          mid := h.mid.grown hg (fun g e => by have := hrow g e; omega)
          bw := h.bw
          off := h.off }
theorem NW.set0 (h : NW w wr b a code cap c pv jv) (v : Value) : NW w (wr.setCell ⟨w.heap.size + 1, 0, none⟩ v) b a code cap c v jv := by
  have hb := h.bw
  have far : ∀ (B o : Nat) (u : Value), B ≠ w.heap.size + 1 → wr.cell? ⟨B, o, none⟩ = some u → (wr.setCell ⟨w.heap.size + 1, 0, none⟩ v).cell? ⟨B, o, none⟩ = some u := fun B o u hB hu => by
    rw [World.cell?_setCell_far wr ⟨w.heap.size + 1, 0, none⟩ ⟨B, o, none⟩ v (by show w.heap.size + 1 ≠ B; omega)]; exact hu
  have frz : ∀ (B o : Nat), wr.frozen? ⟨B, o, none⟩ = false → (wr.setCell ⟨w.heap.size + 1, 0, none⟩ v).frozen? ⟨B, o, none⟩ = false := fun B o hB => by simp [go_sem, hB]
  have hcur := h.cur
  exact { cur := ⟨far _ _ _ (by omega) hcur.c0, far _ _ _ (by omega) hcur.c1, far _ _ _ (by omega) hcur.c2, frz _ _ hcur.f1, frz _ _ hcur.f2⟩
          bys := fun k hk => by
            obtain ⟨xb, xo, ha, hx⟩ := h.bys k hk
            have := h.off xb xo ha
            exact ⟨xb, xo, ha, far _ _ _ (by omega) hx⟩
          r0 := far _ _ _ (by omega) h.r0
          r1 := far _ _ _ (by omega) h.r1
          rf0 := frz _ _ h.rf0
          rf1 := frz _ _ h.rf1
          n0 := by simp [go_sem, h.n0]
          n1 := by simp [go_sem, h.n1]
          nf0 := frz _ _ h.nf0
          nf1 := frz _ _ h.nf1
          mid := h.mid.setNew (by omega) v
          bw := h.bw
          off := h.off }
theorem NW.set1 (h : NW w wr b a code cap c pv jv) (v : Value) : NW w (wr.setCell ⟨w.heap.size + 1, 1, none⟩ v) b a code cap c pv v := by
  have hb := h.bw
  have far : ∀ (B o : Nat) (u : Value), B ≠ w.heap.size + 1 → wr.cell? ⟨B, o, none⟩ = some u → (wr.setCell ⟨w.heap.size + 1, 1, none⟩ v).cell? ⟨B, o, none⟩ = some u := fun B o u hB hu => by
    rw [World.cell?_setCell_far wr ⟨w.heap.size + 1, 1, none⟩ ⟨B, o, none⟩ v (by show w.heap.size + 1 ≠ B; omega)]; exact hu
  have frz : ∀ (B o : Nat), wr.frozen? ⟨B, o, none⟩ = false → (wr.setCell ⟨w.heap.size + 1, 1, none⟩ v).frozen? ⟨B, o, none⟩ = false := fun B o hB => by simp [go_sem, hB]
  have hcur := h.cur
  exact { cur := ⟨far _ _ _ (by omega) hcur.c0, far _ _ _ (by omega) hcur.c1, far _ _ _ (by omega) hcur.c2, frz _ _ hcur.f1, frz _ _ hcur.f2⟩
          bys := fun k hk => by
            obtain ⟨xb, xo, ha, hx⟩ := h.bys k hk
            have := h.off xb xo ha
            exact ⟨xb, xo, ha, far _ _ _ (by omega) hx⟩
          r0 := far _ _ _ (by omega) h.r0
          r1 := far _ _ _ (by omega) h.r1
          rf0 := frz _ _ h.rf0
          rf1 := frz _ _ h.rf1
          n0 := by simp [go_sem, h.n0]
          n1 := by simp [go_sem, h.n1]
          nf0 := frz _ _ h.nf0
          nf1 := frz _ _ h.nf1
          mid := h.mid.setNew (by omega) v
          bw := h.bw
          off := h.off }
/-- A store into a block that is none of these. -/
theorem NW.setOther (h : NW w wr b a code cap c pv jv) {B o : Nat} (hB : w.heap.size + 2 ≤ B) (v : Value) : NW w (wr.setCell ⟨B, o, none⟩ v) b a code cap c pv jv := by
  have hb := h.bw
  have far : ∀ (D i : Nat) (u : Value), D < w.heap.size + 2 → wr.cell? ⟨D, i, none⟩ = some u → (wr.setCell ⟨B, o, none⟩ v).cell? ⟨D, i, none⟩ = some u := fun D i u hD hu => by
    rw [World.cell?_setCell_far wr ⟨B, o, none⟩ ⟨D, i, none⟩ v (by show B ≠ D; omega)]; exact hu
  have frz : ∀ (D i : Nat), wr.frozen? ⟨D, i, none⟩ = false → (wr.setCell ⟨B, o, none⟩ v).frozen? ⟨D, i, none⟩ = false := fun D i hD => by simp [go_sem, hD]
  have hcur := h.cur
  exact { cur := ⟨far _ _ _ (by omega) hcur.c0, far _ _ _ (by omega) hcur.c1, far _ _ _ (by omega) hcur.c2, frz _ _ hcur.f1, frz _ _ hcur.f2⟩
          bys := fun k hk => by
            obtain ⟨xb, xo, ha, hx⟩ := h.bys k hk
            have := h.off xb xo ha
            exact ⟨xb, xo, ha, far _ _ _ (by omega) hx⟩
          r0 := far _ _ _ (by omega) h.r0
          r1 := far _ _ _ (by omega) h.r1
          rf0 := frz _ _ h.rf0
          rf1 := frz _ _ h.rf1
          n0 := far _ _ _ (by omega) h.n0
          n1 := far _ _ _ (by omega) h.n1
          nf0 := frz _ _ h.nf0
          nf1 := frz _ _ h.nf1
          mid := h.mid.setNew (by omega) v
          bw := h.bw
          off := h.off }
end
end Go.Proofs.YtldafgbhjpfboaaGreat

/- Drawn tracks: the order of the ends, the joints: plain, and rows of ends. Own work. -/
namespace Go.Proofs.YtldafgbhjpfboaaGreat
open Go.RowKit
set_option maxHeartbeats 1000000

/-! ### Plain -/
def swapAt (es : List (Int × Int)) (i k : Nat) : List (Int × Int) := (es.set i es[k]!).set k es[i]!
theorem swapAt_len (es : List (Int × Int)) (i k : Nat) : (swapAt es i k).length = es.length := by simp [swapAt]
def shufI (code : List Int) (i : Nat) (c : Cu) : Int := (i : Int) - pickV code ((i : Int) + 1) c / (1 + pickV code 3 (pickC code ((i : Int) + 1) c))
def shufC (code : List Int) (i : Nat) (c : Cu) : Cu := pickC code 3 (pickC code ((i : Int) + 1) c)
theorem shufI_bd (code : List Int) (i : Nat) (c : Cu) : 0 ≤ shufI code i c ∧ shufI code i c ≤ i := by
  unfold shufI
  have h1 := pickV_bd (code := code) (n := (i : Int) + 1) (by omega) c
  have h2 := pickV_bd (code := code) (n := 3) (by omega) (pickC code ((i : Int) + 1) c)
  have h3 : 0 ≤ pickV code ((i : Int) + 1) c / (1 + pickV code 3 (pickC code ((i : Int) + 1) c)) := Int.ediv_nonneg h1.1 (by omega)
  have h4 : pickV code ((i : Int) + 1) c / (1 + pickV code 3 (pickC code ((i : Int) + 1) c)) ≤ pickV code ((i : Int) + 1) c := Int.ediv_le_self _ h1.1
  omega
theorem shufC_at (code : List Int) (i : Nat) (c : Cu) : (shufC code i c).at' ≤ c.at' + 4 := by
  unfold shufC
  have := pickC_at code ((i : Int) + 1) c
  have := pickC_at code 3 (pickC code ((i : Int) + 1) c)
  omega
def shuf (code : List Int) : Nat → List (Int × Int) → Cu → List (Int × Int) × Cu
  | 0, es, c => (es, c)
  | i + 1, es, c => shuf code i (swapAt es (i + 1) (shufI code (i + 1) c).toNat) (shufC code (i + 1) c)
theorem shuf_len (code : List Int) : ∀ (i : Nat) (es : List (Int × Int)) (c : Cu), (shuf code i es c).1.length = es.length
  | 0, es, c => rfl
  | i + 1, es, c => by
    rw [shuf, shuf_len code i, swapAt_len]

def kindT (x : Int) : Int := if x = 0 then 1 else if x < 3 then 2 else if x < 6 then 3 else 4
theorem kindT_bd (x : Int) : 1 ≤ kindT x ∧ kindT x ≤ 4 := by
  unfold kindT
  repeat' split
  all_goals omega
def jtKind (code : List Int) (es : List (Int × Int)) (c : Cu) : Int := if kindT (pickV code 7 c) > (es.length : Int) then 1 else kindT (pickV code 7 c)
def jtDraw (code : List Int) (n : Nat) (es : List (Int × Int)) (c : Cu) : Jt := ⟨jtKind code es c, if 3 ≤ jtKind code es c then nameP (100 + (n : Int)) else ⟨#[]⟩, es.take (jtKind code es c).toNat⟩
theorem jtKind_bd (code : List Int) (es : List (Int × Int)) (c : Cu) (h : 0 < es.length) : 1 ≤ jtKind code es c ∧ jtKind code es c ≤ 4 ∧ jtKind code es c ≤ es.length := by
  unfold jtKind kindT
  have := pickV_bd (code := code) (n := 7) (by omega) c
  repeat' split
  all_goals omega
def jrun (code : List Int) : Nat → List Jt → List (Int × Int) → Cu → List Jt
  | 0, js, _, _ => js
  | f + 1, js, es, c => if es.length = 0 then js else jrun code f (js ++ [jtDraw code js.length es c]) (es.drop (jtKind code es c).toNat) (pickC code 7 c)
theorem jrun_fuel (code : List Int) : ∀ (f g : Nat) (js : List Jt) (es : List (Int × Int)) (c : Cu), es.length ≤ f → es.length ≤ g → jrun code f js es c = jrun code g js es c
  | 0, 0, js, es, c, _, _ => rfl
  | 0, g + 1, js, es, c, hf, _ => by
    have : es.length = 0 := by omega
    simp [jrun, this]
  | f + 1, 0, js, es, c, _, hg => by
    have : es.length = 0 := by omega
    simp [jrun, this]
  | f + 1, g + 1, js, es, c, hf, hg => by
    rw [jrun, jrun]
    split
    · rfl
    · rename_i h0
      have := jtKind_bd code es c (by omega)
      exact jrun_fuel code f g _ _ _ (by simp; omega) (by simp; omega)

/-- The track that is drawn. -/
def netP (code : List Int) (c : Cu) : Nt :=
  let small := pickV code 4 c
  let c1 := pickC code 4 c
  let K := (1 + pickV code 9 c1).toNat
  let P := pcsTo code small (pickC code 9 c1) K
  let E := shuf code (2 * K - 1) (endsTo K) P.2
  ⟨P.1, jrun code (2 * K) [] E.1 E.2⟩

/-! ### Rows of ends -/
theorem endCells_len (es : List (Int × Int)) : (endCells es).length = es.length * 2 := by
  induction es with
  | nil => rfl
  | cons e es ih =>
    show (.int .i64 e.1 :: .int .i64 e.2 :: endCells es).length = _
    simp [ih]; omega
theorem endCells_at (ps : List (Int × Int)) : ∀ k (hk : k < ps.length), (endCells ps)[k * 2]? = some (.int .i64 ps[k].1) ∧ (endCells ps)[k * 2 + 1]? = some (.int .i64 ps[k].2) := by
  induction ps with
  | nil => intro k hk; simp at hk
  | cons p ps ih =>
    intro k hk
    have e : endCells (p :: ps) = .int .i64 p.1 :: .int .i64 p.2 :: endCells ps := rfl
    rw [e]
    cases k with
    | zero => exact ⟨rfl, rfl⟩
    | succ k =>
      have := ih k (by simpa using hk)
      have e3 : (k + 1) * 2 = k * 2 + 1 + 1 := by omega
      rw [e3]
      simpa using this
theorem endCells_set (ps : List (Int × Int)) : ∀ k (_ : k < ps.length) (x y : Int), ((endCells ps).set (k * 2) (.int .i64 x)).set (k * 2 + 1) (.int .i64 y) = endCells (ps.set k (x, y)) := by
  induction ps with
  | nil => intro k hk; simp at hk
  | cons p ps ih =>
    intro k hk x y
    have e : ∀ (p : Int × Int) (ps : List (Int × Int)), endCells (p :: ps) = .int .i64 p.1 :: .int .i64 p.2 :: endCells ps := fun _ _ => rfl
    cases k with
    | zero => rw [e]; simp [e]
    | succ k =>
      have := ih k (by simpa using hk) x y
      have e3 : (k + 1) * 2 = k * 2 + 1 + 1 := by omega
      rw [e3, e, List.set_cons_succ, List.set_cons_succ, List.set_cons_succ, List.set_cons_succ, this]
      rfl
theorem ends_get {w : World} {base g cap : Nat} {T : TypeId} {n : Nat} {es : List (Int × Int)} (h : w.ownsRow base T 2 (.slice (some ⟨g, 0, none⟩) n cap) n (endCells es)) (hl : es.length = n) {k : Nat} (hk : k < es.length) :
    w.cell? ⟨g, k * 2, none⟩ = some (.int .i64 es[k].1) ∧ w.cell? ⟨g, k * 2 + 1, none⟩ = some (.int .i64 es[k].2) ∧ w.frozen? ⟨g, k * 2, none⟩ = false ∧ w.frozen? ⟨g, k * 2 + 1, none⟩ = false := by
  obtain ⟨h1, h2⟩ := endCells_at es k hk
  exact ⟨by rw [h.cellAt _ (by omega), h1], by rw [h.cellAt _ (by omega), h2], h.frozenAt _, h.frozenAt _⟩
theorem ends_put {w : World} {base g cap : Nat} {T : TypeId} {n : Nat} {es : List (Int × Int)} (h : w.ownsRow base T 2 (.slice (some ⟨g, 0, none⟩) n cap) n (endCells es)) {k : Nat} (hk : k < es.length) (x y : Int) :
    ((w.setCell ⟨g, k * 2, none⟩ (.int .i64 x)).setCell ⟨g, k * 2 + 1, none⟩ (.int .i64 y)).ownsRow base T 2 (.slice (some ⟨g, 0, none⟩) n cap) n (endCells (es.set k (x, y))) := by
  rw [← endCells_set es k hk x y]
  exact ((h.stored _ _).1.stored _ _).1
theorem ends_at_of {w : World} {base g cap : Nat} {T : TypeId} {n : Nat} {es : List (Int × Int)} (h : w.ownsRow base T 2 (.slice (some ⟨g, 0, none⟩) n cap) n (endCells es)) (hl : es.length = n) : EndsAt w (some ⟨g, 0, none⟩) es := by
  intro k hk
  obtain ⟨h1, h2, _⟩ := ends_get h hl hk
  exact ⟨g, 0, rfl, by rw [Nat.zero_add]; exact h1, by rw [Nat.zero_add]; exact h2⟩
end Go.Proofs.YtldafgbhjpfboaaGreat

/- A drawn track is right: plain. Own work. -/
namespace Go.Proofs.YtldafgbhjpfboaaGreat
set_option maxHeartbeats 1000000

/-! ### Names -/
theorem nameP_nm : ∀ i : Fin 9, nm (nameP (i.val : Int)) = true := by decide +kernel
theorem nameP_nm1 : ∀ i : Fin 18, nm (nameP (100 + (i.val : Int))) = true := by decide +kernel
theorem nameP_ne : ∀ i k : Fin 9, i ≠ k → ((nameP (i.val : Int)).toList == (nameP (k.val : Int)).toList) = false := by decide +kernel
theorem nameP_ne1 : ∀ i k : Fin 18, i ≠ k → ((nameP (100 + (i.val : Int))).toList == (nameP (100 + (k.val : Int))).toList) = false := by decide +kernel
theorem nameP_some : ∀ k : Fin 18, ((⟨#[]⟩ : ByteArray).toList == (nameP (100 + (k.val : Int))).toList) = false := by decide +kernel
theorem name_empty : ((⟨#[]⟩ : ByteArray).toList).isEmpty = true := by decide +kernel

theorem inR_of {x a b : Int} (h1 : a ≤ x) (h2 : x ≤ b) : inR x a b = true := by simp [inR, h1, h2]

/-! ### Pieces -/
theorem pcs_get (code : List Int) (small : Int) (c0 : Cu) : ∀ (i k : Nat) (hk : k < (pcsTo code small c0 i).1.length), ∃ c, (pcsTo code small c0 i).1[k] = pcDraw code small k c
  | 0, k, hk => by simp [pcsTo] at hk
  | i + 1, k, hk => by
    have hl := pcsTo_len code small c0 i
    have hl1 := pcsTo_len code small c0 (i + 1)
    by_cases h : k < i
    · obtain ⟨c, hc⟩ := pcs_get code small c0 i k (by omega)
      refine ⟨c, ?_⟩
      rw [← hc]
      simp only [pcsTo]
      exact List.getElem_append_left (by omega)
    · have e : k = i := by omega
      refine ⟨(pcsTo code small c0 i).2, ?_⟩
      simp only [pcsTo]
      rw [List.getElem_append_right (by omega)]
      simp [e]

/-! ### Ends -/
theorem count_swap (es : List (Int × Int)) (i k : Nat) (hi : i < es.length) (hk : k < es.length) (b : Int × Int) : (swapAt es i k).count b = es.count b := by
  unfold swapAt
  have e1 : es[i]! = es[i] := by simp [hi]
  have e2 : es[k]! = es[k] := by simp [hk]
  rw [e1, e2, List.count_set (by simpa using hk), List.count_set hi]
  have e3 : (es.set i es[k])[k]'(by simpa using hk) = es[k] := by
    rw [List.getElem_set]
    split <;> rfl
  rw [e3]
  by_cases h1 : es[i] = b
  · have : 0 < es.count b := List.count_pos_iff.2 (h1 ▸ List.getElem_mem hi)
    by_cases h2 : es[k] = b
    · simp [h1, h2]; omega
    · simp [h1, h2]; omega
  · by_cases h2 : es[k] = b
    · simp [h1, h2]
    · simp [h1, h2]
theorem count_shuf (code : List Int) (b : Int × Int) : ∀ (i : Nat) (es : List (Int × Int)) (c : Cu), (i = 0 ∨ i < es.length) → (shuf code i es c).1.count b = es.count b
  | 0, es, c, _ => rfl
  | i + 1, es, c, h => by
    have hi : i + 1 < es.length := by omega
    have hb := shufI_bd code (i + 1) c
    rw [shuf, count_shuf code b i _ _ (by rw [swapAt_len]; omega), count_swap _ _ _ hi (by omega)]
theorem mem_endsTo {e : Int × Int} : ∀ {i : Nat}, e ∈ endsTo i → 0 ≤ e.1 ∧ e.1 < i ∧ (e.2 = 0 ∨ e.2 = 1)
  | 0, h => by simp [endsTo] at h
  | i + 1, h => by
    simp only [endsTo, List.mem_append, List.mem_cons, List.not_mem_nil, or_false] at h
    rcases h with h | rfl | rfl
    · have := mem_endsTo h; omega
    · simp; omega
    · simp; omega
theorem count_endsTo (s : Int) (hs : s = 0 ∨ s = 1) (k : Nat) : ∀ i : Nat, (endsTo i).count ((k : Int), s) = if k < i then 1 else 0
  | 0 => by simp [endsTo]
  | i + 1 => by
    rw [endsTo, List.count_append, count_endsTo s hs k i]
    by_cases h : k = i
    · subst h
      rcases hs with rfl | rfl <;> simp
    · rcases hs with rfl | rfl <;> simp [List.count_cons] <;> (repeat' split) <;> omega

/-! ### Joints -/
theorem jrun_get (code : List Int) (P : Int × Int → Prop) : ∀ (f : Nat) (js : List Jt) (es : List (Int × Int)) (c : Cu), (∀ e ∈ es, P e) → (∀ k (hk : k < js.length), ∃ es' c', 0 < es'.length ∧ (∀ e ∈ es', P e) ∧ js[k] = jtDraw code k es' c') →
    ∀ k (hk : k < (jrun code f js es c).length), ∃ es' c', 0 < es'.length ∧ (∀ e ∈ es', P e) ∧ (jrun code f js es c)[k] = jtDraw code k es' c'
  | 0, js, es, c, _, h => h
  | f + 1, js, es, c, he, h => by
    intro k hk
    by_cases h0 : es.length = 0
    · have e : jrun code (f + 1) js es c = js := by rw [jrun, if_pos h0]
      obtain ⟨es', c', h1, h2, h3⟩ := h k (by rw [e] at hk; exact hk)
      exact ⟨es', c', h1, h2, by rw [← h3]; simp only [e]⟩
    · have e : jrun code (f + 1) js es c = jrun code f (js ++ [jtDraw code js.length es c]) (es.drop (jtKind code es c).toNat) (pickC code 7 c) := by rw [jrun, if_neg h0]
      obtain ⟨es', c', h1, h2, h3⟩ := jrun_get code P f (js ++ [jtDraw code js.length es c]) (es.drop (jtKind code es c).toNat) (pickC code 7 c) (fun x hx => he x (List.mem_of_mem_drop hx)) (fun m hm => by
        by_cases hm' : m < js.length
        · obtain ⟨es', c', h1, h2, h3⟩ := h m hm'
          exact ⟨es', c', h1, h2, by rw [← h3]; exact List.getElem_append_left hm'⟩
        · have : m = js.length := by simp at hm; omega
          subst this
          exact ⟨es, c, by omega, he, by simp⟩) k (by rw [e] at hk; exact hk)
      exact ⟨es', c', h1, h2, by rw [← h3]; simp only [e]⟩
theorem jrun_ends (code : List Int) : ∀ (f : Nat) (js : List Jt) (es : List (Int × Int)) (c : Cu), es.length ≤ f → allEnds (jrun code f js es c) = allEnds js ++ es
  | 0, js, es, c, h => by
    have : es = [] := List.length_eq_zero_iff.1 (by omega)
    simp [jrun, this]
  | f + 1, js, es, c, h => by
    rw [jrun]
    split
    · rename_i h0
      simp [List.length_eq_zero_iff.1 h0]
    · rename_i h0
      have := jtKind_bd code es c (by omega)
      rw [jrun_ends code f _ _ _ (by simp; omega)]
      have e : allEnds (js ++ [jtDraw code js.length es c]) = allEnds js ++ es.take (jtKind code es c).toNat := by simp [allEnds, jtDraw]
      rw [e, List.append_assoc, List.take_append_drop]
theorem jrun_len (code : List Int) : ∀ (f : Nat) (js : List Jt) (es : List (Int × Int)) (c : Cu), (jrun code f js es c).length ≤ js.length + es.length
  | 0, js, es, c => by simp [jrun]
  | f + 1, js, es, c => by
    rw [jrun]
    split
    · omega
    · have := jtKind_bd code es c (by omega)
      have := jrun_len code f (js ++ [jtDraw code js.length es c]) (es.drop (jtKind code es c).toNat) (pickC code 7 c)
      simp at this
      omega

/-- A drawn track is right. -/
theorem netP_right (code : List Int) (c : Cu) : netOk (netP code c) = (0, 0) := by
  have hk := pickV_bd (code := code) (n := 9) (by omega) (pickC code 4 c)
  generalize hK : (1 + pickV code 9 (pickC code 4 c)).toNat = K
  have hK9 : 1 ≤ K ∧ K ≤ 9 := by omega
  have hpcs : (netP code c).pcs = (pcsTo code (pickV code 4 c) (pickC code 9 (pickC code 4 c)) K).1 := by unfold netP; simp only [hK]
  have hjts : (netP code c).jts = jrun code (2 * K) [] (shuf code (2 * K - 1) (endsTo K) (pcsTo code (pickV code 4 c) (pickC code 9 (pickC code 4 c)) K).2).1 (shuf code (2 * K - 1) (endsTo K) (pcsTo code (pickV code 4 c) (pickC code 9 (pickC code 4 c)) K).2).2 := by unfold netP; simp only [hK]
  have hpl := pcsTo_len code (pickV code 4 c) (pickC code 9 (pickC code 4 c)) K
  have hpg := pcs_get code (pickV code 4 c) (pickC code 9 (pickC code 4 c)) K
  have hcs := fun b => count_shuf code b (2 * K - 1) (endsTo K) (pcsTo code (pickV code 4 c) (pickC code 9 (pickC code 4 c)) K).2 (by rw [endsTo_len]; omega)
  have hsl := shuf_len code (2 * K - 1) (endsTo K) (pcsTo code (pickV code 4 c) (pickC code 9 (pickC code 4 c)) K).2
  rw [endsTo_len] at hsl
  generalize hS : shuf code (2 * K - 1) (endsTo K) (pcsTo code (pickV code 4 c) (pickC code 9 (pickC code 4 c)) K).2 = S at *
  have hmem : ∀ e ∈ S.1, 0 ≤ e.1 ∧ e.1 < K ∧ (e.2 = 0 ∨ e.2 = 1) := fun e he => by
    have h1 : 0 < S.1.count e := List.count_pos_iff.2 he
    rw [hcs e] at h1
    exact mem_endsTo (List.count_pos_iff.1 h1)
  have hjg := jrun_get code (fun e => 0 ≤ e.1 ∧ e.1 < K ∧ (e.2 = 0 ∨ e.2 = 1)) (2 * K) [] S.1 S.2 hmem (fun k hk => by simp at hk)
  have hje := jrun_ends code (2 * K) [] S.1 S.2 (by omega)
  have hjl := jrun_len code (2 * K) [] S.1 S.2
  rw [← hpcs] at hpl hpg
  rw [← hjts] at hjg hje hjl
  simp only [List.length_nil, Nat.zero_add] at hjl
  generalize netP code c = N at *
  clear hpcs hjts hS
  refine netOk_0 ?_ ?_ ?_ ?_ ?_
  · simp only [sizeBad, Bool.or_eq_false_iff, decide_eq_false_iff_not]; omega
  · intro j hj
    rw [pcBad_eq hj]
    obtain ⟨d, hd⟩ := hpg j hj
    have hn := nameP_nm ⟨j, by omega⟩
    have ho : N.pcs[j].ok = true := by
      rw [hd]
      have b2 := pickV_bd (code := code) (n := 200) (by omega) (pcC2 code (pickV code 4 c) d)
      have b3 := pickV_bd (code := code) (n := 90) (by omega) (pickC code 200 (pcC2 code (pickV code 4 c) d))
      have b1 : 1 ≤ pcLen code (pickV code 4 c) d ∧ pcLen code (pickV code 4 c) d ≤ 300 := by
        unfold pcLen
        have p1 := pickV_bd (code := code) (n := 4) (by omega) (wideC code d)
        have p2 := wideV_bd (code := code) (n := 300) (by omega) d
        split <;> omega
      show (nm (nameP (j : Int)) && inR (pcLen code (pickV code 4 c) d) 1 10000000 && inR (1 + pickV code 200 (pcC2 code (pickV code 4 c) d)) 1 10000 && inR (1 + pickV code 90 (pickC code 200 (pcC2 code (pickV code 4 c) d))) 1 1000) = true
      rw [hn, inR_of b1.1 (by omega), inR_of (by omega) (by omega), inR_of (by omega) (by omega)]
      rfl
    rw [ho, any_take_false (fun u hu hl => ?_)]
    · rfl
    · obtain ⟨d', hd'⟩ := hpg u hl
      rw [hd, hd']
      exact nameP_ne ⟨u, by omega⟩ ⟨j, by omega⟩ (by intro e; injection e; omega)
  · intro j hj
    rw [jtBad3_eq hj]
    obtain ⟨es, d, h1, h2, h3⟩ := hjg j hj
    have hb := jtKind_bd code es d h1
    rw [h3]
    have e1 : inR (jtDraw code j es d).kind 1 4 = true := inR_of hb.1 hb.2.1
    have e2 : ((jtDraw code j es d).ends.length : Int) = (jtDraw code j es d).kind := by
      simp only [jtDraw, List.length_take]; omega
    rw [e1, e2, any_false' (fun u hl => ?_)]
    · simp
    · have := h2 _ (List.mem_of_mem_take (List.getElem_mem hl))
      unfold endOk
      rw [inR_of (by omega) (by omega), inR_of (by omega) (by omega)]
      rfl
  · intro j hj
    rw [jtBad4_eq hj]
    obtain ⟨es, d, h1, h2, h3⟩ := hjg j hj
    rw [h3]
    split
    · rename_i hk3
      have : (jtDraw code j es d).name = ⟨#[]⟩ := by
        simp only [jtDraw] at hk3 ⊢
        rw [if_neg (by omega)]
      rw [this, name_empty]; rfl
    · rename_i hk3
      have hnm : (jtDraw code j es d).name = nameP (100 + (j : Int)) := by
        simp only [jtDraw] at hk3 ⊢
        rw [if_pos (by omega)]
      rw [hnm, nameP_nm1 ⟨j, by omega⟩, any_take_false (fun u hu hl => ?_)]
      · rfl
      · obtain ⟨es', d', _, _, h3'⟩ := hjg u hl
        rw [h3']
        simp only [jtDraw]
        split
        · exact nameP_ne1 ⟨u, by omega⟩ ⟨j, by omega⟩ (by intro e; injection e; omega)
        · exact nameP_some ⟨j, by omega⟩
  · intro j hj
    have hu : ∀ s, (s = 0 ∨ s = 1) → uses N.jts ((j : Int), s) = 1 := fun s hs => by
      unfold uses
      rw [hje]
      simp only [allEnds, List.flatMap_nil, List.nil_append]
      rw [hcs, count_endsTo s hs j K, if_pos (by omega)]
    exact pcBad5_false (hu 0 (.inl rfl)) (hu 1 (.inr rfl))
end Go.Proofs.YtldafgbhjpfboaaGreat

/- Drawn tracks: plain, and how one lies in memory while it is made. Own work. -/
import Derived.Test.YtcodpnkfpmjleaaGreatDoorMxAG
import Derived.Test.YtcodpnkfpmjleaaGreatDoorDrS
import Derived.Deep.AppendLies
namespace Go.Proofs.YtcodpnkfpmjleaaGreatDoor
open Go.RowKit
set_option maxHeartbeats 1000000

/-! ### Plain -/
def pcLen (code : List Int) (small : Int) (c : Cu) : Int := if small = 0 then 1 + pickV code 4 (wideC code c) else 1 + wideV code 300 c
def pcC2 (code : List Int) (small : Int) (c : Cu) : Cu := if small = 0 then pickC code 4 (wideC code c) else wideC code c
def pcDraw (code : List Int) (small : Int) (i : Nat) (c : Cu) : Pc := ⟨nameP i, pcLen code small c, 1 + pickV code 200 (pcC2 code small c), 1 + pickV code 90 (pickC code 200 (pcC2 code small c))⟩
def pcNext (code : List Int) (small : Int) (c : Cu) : Cu := pickC code 90 (pickC code 200 (pcC2 code small c))
def pcsTo (code : List Int) (small : Int) (c0 : Cu) : Nat → List Pc × Cu
  | 0 => ([], c0)
  | i + 1 => ((pcsTo code small c0 i).1 ++ [pcDraw code small i (pcsTo code small c0 i).2], pcNext code small (pcsTo code small c0 i).2)
def endsTo : Nat → List (Int × Int)
  | 0 => []
  | i + 1 => endsTo i ++ [((i : Int), 0), ((i : Int), 1)]
theorem endsTo_len (i : Nat) : (endsTo i).length = 2 * i := by
  induction i with
  | zero => rfl
  | succ i ih => simp [endsTo, ih]; omega
theorem pcsTo_len (code : List Int) (small : Int) (c0 : Cu) (i : Nat) : (pcsTo code small c0 i).1.length = i := by
  induction i with
  | zero => rfl
  | succ i ih => simp [pcsTo, ih]
theorem pcC2_at (code : List Int) (small : Int) (c : Cu) : (pcC2 code small c).at' ≤ c.at' + 4 := by
  unfold pcC2
  have := wideC_at code c
  have := pickC_at code 4 (wideC code c)
  split <;> omega
theorem pcNext_at (code : List Int) (small : Int) (c : Cu) : (pcNext code small c).at' ≤ c.at' + 8 := by
  unfold pcNext
  have := pcC2_at code small c
  have := pickC_at code 200 (pcC2 code small c)
  have := pickC_at code 90 (pickC code 200 (pcC2 code small c))
  omega
theorem pcsTo_at (code : List Int) (small : Int) (c0 : Cu) (i : Nat) : (pcsTo code small c0 i).2.at' ≤ c0.at' + 8 * i := by
  induction i with
  | zero => exact Nat.le_refl _
  | succ i ih =>
    have := pcNext_at code small (pcsTo code small c0 i).2
    simp only [pcsTo]
    omega
theorem pcLen_bd (code : List Int) (small : Int) (c : Cu) : 1 ≤ pcLen code small c ∧ pcLen code small c ≤ 300 := by
  unfold pcLen
  have := pickV_bd (code := code) (n := 4) (by omega) (wideC code c)
  have := wideV_bd (code := code) (n := 300) (by omega) c
  split <;> omega

/-! ### Rows -/
def pcCells (ps : List Pc) : List Value := ps.flatMap fun p => [.string p.name, .int .i64 p.len, .int .i64 p.speed, .int .i64 p.brake]
def endCells (es : List (Int × Int)) : List Value := es.flatMap fun e => [.int .i64 e.1, .int .i64 e.2]
theorem pcCells_add (ps : List Pc) (p : Pc) : pcCells (ps ++ [p]) = pcCells ps ++ [.string p.name, .int .i64 p.len, .int .i64 p.speed, .int .i64 p.brake] := by simp [pcCells]
theorem endCells_add (es : List (Int × Int)) (e f : Int × Int) : endCells (es ++ [e, f]) = endCells es ++ [.int .i64 e.1, .int .i64 e.2, .int .i64 f.1, .int .i64 f.2] := by simp [endCells]
theorem endCells_add1 (es : List (Int × Int)) (e : Int × Int) : endCells (es ++ [e]) = endCells es ++ [.int .i64 e.1, .int .i64 e.2] := by simp [endCells]

theorem Mid.setNew {B C : Nat} {w w2 : World} (h : Mid B C w w2) {b o : Nat} (hb : w.heap.size ≤ b) (u : Value) : Mid B C w (w2.setCell ⟨b, o, none⟩ u) :=
  ⟨h.os, h.tape, h.output, by simpa [World.setCell] using h.size, fun k hk hc => (Below.heap_setCell _ _ _ _ (by show k ≠ b; omega)).trans (h.block k hk hc)⟩
theorem Mid.grown {B C : Nat} {w w2 w3 : World} {row : Option Nat} (h : Mid B C w w2) (hg : w2.grownBy w3 row) (hrow : ∀ g, row = some g → w.heap.size ≤ g) : Mid B C w w3 :=
  ⟨hg.os.trans h.os, hg.tape.trans h.tape, hg.output.trans h.output, Nat.le_trans h.size hg.size, fun k hk hc => (hg.block k (Nat.lt_of_lt_of_le hk h.size) (fun e => by have := hrow k e.symm; omega)).trans (h.block k hk hc)⟩
theorem Mid.frozen {B C : Nat} {w w' : World} (h : Mid B C w w') {b o : Nat} {v : Value} (hb : b < B ∨ C ≤ b) (hc : w.cell? ⟨b, o, none⟩ = some v) (hf : w.frozen? ⟨b, o, none⟩ = false) : w'.frozen? ⟨b, o, none⟩ = false := by
  rw [World.frozen?_of_block (w := w) (w' := w') (a := ⟨b, o, none⟩) (h.block b (cell_lt hc) hb)]; exact hf
theorem owns_mid {B C : Nat} {w w' : World} {base : Nat} {e : TypeId} {size : Nat} {v : Value} {n : Nat} {xs : List Value} (h : w.ownsRow base e size v n xs) (hm : Mid B C w w') (hC : C ≤ base) : w'.ownsRow base e size v n xs := by
  refine ⟨h.1, ?_⟩
  rcases h.2 with h | ⟨g, cap, cur, hv, hbg, hg, rest⟩
  · exact .inl h
  · exact .inr ⟨g, cap, cur, hv, hbg, by rw [hm.block g (Array.getElem?_eq_some_iff.1 hg).1 (.inr (by omega))]; exact hg, rest⟩
/-- Rows of two kinds are two rows. -/
theorem owns_ne {w : World} {base base' : Nat} {e e' : TypeId} {size size' : Nat} {v v' : Value} {n n' : Nat} {xs xs' : List Value} (h : w.ownsRow base e size v n xs) (h' : w.ownsRow base' e' size' v' n' xs') (hne : e ≠ e') : v.ownBlock = none ∨ v.ownBlock ≠ v'.ownBlock := by
  rcases h.2 with ⟨rfl, _⟩ | ⟨g, cap, cur, rfl, _, hg, _⟩
  · exact .inl rfl
  · rcases h'.2 with ⟨rfl, _⟩ | ⟨g', cap', cur', rfl, _, hg', _⟩
    · exact .inr (by simp [Value.ownBlock])
    · refine .inr ?_
      intro he
      have : g = g' := by simpa [Value.ownBlock] using he
      subst this
      rw [hg] at hg'
      injection hg' with hg'
      injection hg' with _ h2 _
      exact hne h2
theorem owns_kept {w w' : World} {base base' : Nat} {e e' : TypeId} {size size' : Nat} {v v' : Value} {n n' : Nat} {xs xs' : List Value} (h : w.ownsRow base e size v n xs) (h' : w.ownsRow base' e' size' v' n' xs') (hne : e ≠ e') (hg : w.grownBy w' v'.ownBlock) : w'.ownsRow base e size v n xs := h.kept hg (owns_ne h h' hne)
theorem infos {P : Program} {T : TypeId} {z : Value} {s b : Nat} (h : (P.info? T).map (fun i => (i.zero, i.size, i.bytes)) = some (some z, s, b)) : ∃ i, P.info? T = some i ∧ i.zero = some z ∧ i.size = s ∧ i.bytes = b := by
  cases hh : P.info? T with
  | none => rw [hh] at h; simp at h
  | some i =>
    rw [hh] at h
    simp only [Option.map_some, Option.some.injEq, Prod.mk.injEq] at h
    exact ⟨i, rfl, h.1, h.2.1, h.2.2⟩

/-! ### While a track is made: the reader, the result's box, the track's box -/
structure NW (w wr : World) (b : Nat) (a : Option Addr) (code : List Int) (cap : Nat) (c : Cu) (pv jv : Value) : Prop where
  cur : CurAt wr b a code.length cap c
  bys : BytesAt wr a code
  r0 : wr.cell? ⟨w.heap.size, 0, none⟩ = some (.slice none 0 0)
  r1 : wr.cell? ⟨w.heap.size, 1, none⟩ = some (.slice none 0 0)
  rf0 : wr.frozen? ⟨w.heap.size, 0, none⟩ = false
  rf1 : wr.frozen? ⟨w.heap.size, 1, none⟩ = false
  n0 : wr.cell? ⟨w.heap.size + 1, 0, none⟩ = some pv
  n1 : wr.cell? ⟨w.heap.size + 1, 1, none⟩ = some jv
  nf0 : wr.frozen? ⟨w.heap.size + 1, 0, none⟩ = false
  nf1 : wr.frozen? ⟨w.heap.size + 1, 1, none⟩ = false
  mid : Mid b (b + 1) w wr
  bw : b < w.heap.size
  off : OffB a code.length b

section
variable {w wr : World} {b : Nat} {a : Option Addr} {code : List Int} {cap : Nat} {c : Cu} {pv jv : Value}
theorem NW.size (h : NW w wr b a code cap c pv jv) : w.heap.size + 2 ≤ wr.heap.size := cell_lt h.n0
theorem NW.later {w2 : World} (h : NW w wr b a code cap c pv jv) (hb : Below wr.heap.size wr w2) : NW w w2 b a code cap c pv jv where
  cur := h.cur.later hb
  bys := h.bys.later hb
  r0 := cell_later' hb h.r0
  r1 := cell_later' hb h.r1
  rf0 := frozen_later hb h.r0 h.rf0
  rf1 := frozen_later hb h.r1 h.rf1
  n0 := cell_later' hb h.n0
  n1 := cell_later' hb h.n1
  nf0 := frozen_later hb h.n0 h.nf0
  nf1 := frozen_later hb h.n1 h.nf1
  mid := h.mid.trans (Mid.of_below hb)
  bw := h.bw
  off := h.off
theorem NW.call {w2 : World} {c2 : Cu} (h : NW w wr b a code cap c pv jv) (hc : CurAt w2 b a code.length cap c2) (hm : Mid b (b + 1) wr w2) : NW w w2 b a code cap c2 pv jv := by
  have hb := h.bw
  exact { cur := hc
          bys := h.bys.mid hm h.off
          r0 := hm.cell (.inr (by omega)) h.r0
          r1 := hm.cell (.inr (by omega)) h.r1
          rf0 := hm.frozen (.inr (by omega)) h.r0 h.rf0
          rf1 := hm.frozen (.inr (by omega)) h.r1 h.rf1
          n0 := hm.cell (.inr (by omega)) h.n0
          n1 := hm.cell (.inr (by omega)) h.n1
          nf0 := hm.frozen (.inr (by omega)) h.n0 h.nf0
          nf1 := hm.frozen (.inr (by omega)) h.n1 h.nf1
          mid := h.mid.trans hm
          bw := h.bw
          off := h.off }
theorem NW.grown {w2 : World} {row : Option Nat} (h : NW w wr b a code cap c pv jv) (hg : wr.grownBy w2 row) (hrow : ∀ g, row = some g → w.heap.size + 2 ≤ g) : NW w w2 b a code cap c pv jv := by
  have hb := h.bw
  have hne : ∀ B, B < w.heap.size + 2 → some B ≠ row := fun B hB e => by have := hrow B e.symm; omega
  have hc : ∀ (B o : Nat) (v : Value), B < w.heap.size + 2 → wr.cell? ⟨B, o, none⟩ = some v → w2.cell? ⟨B, o, none⟩ = some v := fun B o v hB hv => hg.cell hv (hne B hB)
  have hf : ∀ (B o : Nat) (v : Value), B < w.heap.size + 2 → wr.cell? ⟨B, o, none⟩ = some v → wr.frozen? ⟨B, o, none⟩ = false → w2.frozen? ⟨B, o, none⟩ = false := fun B o v hB hv hz => by
    rw [hg.frozen_far ⟨B, o, none⟩ (cell_lt hv) (hne B hB)]; exact hz
  have hcur := h.cur
  exact { cur := ⟨hc _ _ _ (by omega) hcur.c0, hc _ _ _ (by omega) hcur.c1, hc _ _ _ (by omega) hcur.c2, hf _ _ _ (by omega) hcur.c1 hcur.f1, hf _ _ _ (by omega) hcur.c2 hcur.f2⟩
          bys := fun k hk => by
            obtain ⟨xb, xo, ha, hx⟩ := h.bys k hk
            have := h.off xb xo ha
            exact ⟨xb, xo, ha, hc _ _ _ (by omega) hx⟩
          r0 := hc _ _ _ (by omega) h.r0
          r1 := hc _ _ _ (by omega) h.r1
          rf0 := hf _ _ _ (by omega) h.r0 h.rf0
          rf1 := hf _ _ _ (by omega) h.r1 h.rf1
          n0 := hc _ _ _ (by omega) h.n0
          n1 := hc _ _ _ (by omega) h.n1
          nf0 := hf _ _ _ (by omega) h.n0 h.nf0
          nf1 := hf _ _ _ (by omega) h.n1 h.nf1
          mid := h.mid.grown hg (fun g e => by have := hrow g e; omega)
          bw := h.bw
          off := h.off }
theorem NW.set0 (h : NW w wr b a code cap c pv jv) (v : Value) : NW w (wr.setCell ⟨w.heap.size + 1, 0, none⟩ v) b a code cap c v jv := by
  have hb := h.bw
  have far : ∀ (B o : Nat) (u : Value), B ≠ w.heap.size + 1 → wr.cell? ⟨B, o, none⟩ = some u → (wr.setCell ⟨w.heap.size + 1, 0, none⟩ v).cell? ⟨B, o, none⟩ = some u := fun B o u hB hu => by
    rw [World.cell?_setCell_far wr ⟨w.heap.size + 1, 0, none⟩ ⟨B, o, none⟩ v (by show w.heap.size + 1 ≠ B; omega)]; exact hu
  have frz : ∀ (B o : Nat), wr.frozen? ⟨B, o, none⟩ = false → (wr.setCell ⟨w.heap.size + 1, 0, none⟩ v).frozen? ⟨B, o, none⟩ = false := fun B o hB => by simp [go_sem, hB]
  have hcur := h.cur
  exact { cur := ⟨far _ _ _ (by omega) hcur.c0, far _ _ _ (by omega) hcur.c1, far _ _ _ (by omega) hcur.c2, frz _ _ hcur.f1, frz _ _ hcur.f2⟩
          bys := fun k hk => by
            obtain ⟨xb, xo, ha, hx⟩ := h.bys k hk
            have := h.off xb xo ha
            exact ⟨xb, xo, ha, far _ _ _ (by omega) hx⟩
          r0 := far _ _ _ (by omega) h.r0
          r1 := far _ _ _ (by omega) h.r1
          rf0 := frz _ _ h.rf0
          rf1 := frz _ _ h.rf1
          n0 := by simp [go_sem, h.n0]
          n1 := by simp [go_sem, h.n1]
          nf0 := frz _ _ h.nf0
          nf1 := frz _ _ h.nf1
          mid := h.mid.setNew (by omega) v
          bw := h.bw
          off := h.off }
theorem NW.set1 (h : NW w wr b a code cap c pv jv) (v : Value) : NW w (wr.setCell ⟨w.heap.size + 1, 1, none⟩ v) b a code cap c pv v := by
  have hb := h.bw
  have far : ∀ (B o : Nat) (u : Value), B ≠ w.heap.size + 1 → wr.cell? ⟨B, o, none⟩ = some u → (wr.setCell ⟨w.heap.size + 1, 1, none⟩ v).cell? ⟨B, o, none⟩ = some u := fun B o u hB hu => by
    rw [World.cell?_setCell_far wr ⟨w.heap.size + 1, 1, none⟩ ⟨B, o, none⟩ v (by show w.heap.size + 1 ≠ B; omega)]; exact hu
  have frz : ∀ (B o : Nat), wr.frozen? ⟨B, o, none⟩ = false → (wr.setCell ⟨w.heap.size + 1, 1, none⟩ v).frozen? ⟨B, o, none⟩ = false := fun B o hB => by simp [go_sem, hB]
  have hcur := h.cur
  exact { cur := ⟨far _ _ _ (by omega) hcur.c0, far _ _ _ (by omega) hcur.c1, far _ _ _ (by omega) hcur.c2, frz _ _ hcur.f1, frz _ _ hcur.f2⟩
          bys := fun k hk => by
            obtain ⟨xb, xo, ha, hx⟩ := h.bys k hk
            have := h.off xb xo ha
            exact ⟨xb, xo, ha, far _ _ _ (by omega) hx⟩
          r0 := far _ _ _ (by omega) h.r0
          r1 := far _ _ _ (by omega) h.r1
          rf0 := frz _ _ h.rf0
          rf1 := frz _ _ h.rf1
          n0 := by simp [go_sem, h.n0]
          n1 := by simp [go_sem, h.n1]
          nf0 := frz _ _ h.nf0
          nf1 := frz _ _ h.nf1
          mid := h.mid.setNew (by omega) v
          bw := h.bw
          off := h.off }
/-- A store into a block that is none of these. -/
theorem NW.setOther (h : NW w wr b a code cap c pv jv) {B o : Nat} (hB : w.heap.size + 2 ≤ B) (v : Value) : NW w (wr.setCell ⟨B, o, none⟩ v) b a code cap c pv jv := by
  have hb := h.bw
  have far : ∀ (D i : Nat) (u : Value), D < w.heap.size + 2 → wr.cell? ⟨D, i, none⟩ = some u → (wr.setCell ⟨B, o, none⟩ v).cell? ⟨D, i, none⟩ = some u := fun D i u hD hu => by
    rw [World.cell?_setCell_far wr ⟨B, o, none⟩ ⟨D, i, none⟩ v (by show B ≠ D; omega)]; exact hu
  have frz : ∀ (D i : Nat), wr.frozen? ⟨D, i, none⟩ = false → (wr.setCell ⟨B, o, none⟩ v).frozen? ⟨D, i, none⟩ = false := fun D i hD => by simp [go_sem, hD]
  have hcur := h.cur
  exact { cur := ⟨far _ _ _ (by omega) hcur.c0, far _ _ _ (by omega) hcur.c1, far _ _ _ (by omega) hcur.c2, frz _ _ hcur.f1, frz _ _ hcur.f2⟩
          bys := fun k hk => by
            obtain ⟨xb, xo, ha, hx⟩ := h.bys k hk
            have := h.off xb xo ha
            exact ⟨xb, xo, ha, far _ _ _ (by omega) hx⟩
          r0 := far _ _ _ (by omega) h.r0
          r1 := far _ _ _ (by omega) h.r1
          rf0 := frz _ _ h.rf0
          rf1 := frz _ _ h.rf1
          n0 := far _ _ _ (by omega) h.n0
          n1 := far _ _ _ (by omega) h.n1
          nf0 := frz _ _ h.nf0
          nf1 := frz _ _ h.nf1
          mid := h.mid.setNew (by omega) v
          bw := h.bw
          off := h.off }
end
end Go.Proofs.YtcodpnkfpmjleaaGreatDoor

/- Drawn tracks: the order of the ends, the joints: plain, and rows of ends. Own work. -/
namespace Go.Proofs.YtcodpnkfpmjleaaGreatDoor
open Go.RowKit
set_option maxHeartbeats 1000000

/-! ### Plain -/
def swapAt (es : List (Int × Int)) (i k : Nat) : List (Int × Int) := (es.set i es[k]!).set k es[i]!
theorem swapAt_len (es : List (Int × Int)) (i k : Nat) : (swapAt es i k).length = es.length := by simp [swapAt]
def shufI (code : List Int) (i : Nat) (c : Cu) : Int := (i : Int) - pickV code ((i : Int) + 1) c / (1 + pickV code 3 (pickC code ((i : Int) + 1) c))
def shufC (code : List Int) (i : Nat) (c : Cu) : Cu := pickC code 3 (pickC code ((i : Int) + 1) c)
theorem shufI_bd (code : List Int) (i : Nat) (c : Cu) : 0 ≤ shufI code i c ∧ shufI code i c ≤ i := by
  unfold shufI
  have h1 := pickV_bd (code := code) (n := (i : Int) + 1) (by omega) c
  have h2 := pickV_bd (code := code) (n := 3) (by omega) (pickC code ((i : Int) + 1) c)
  have h3 : 0 ≤ pickV code ((i : Int) + 1) c / (1 + pickV code 3 (pickC code ((i : Int) + 1) c)) := Int.ediv_nonneg h1.1 (by omega)
  have h4 : pickV code ((i : Int) + 1) c / (1 + pickV code 3 (pickC code ((i : Int) + 1) c)) ≤ pickV code ((i : Int) + 1) c := Int.ediv_le_self _ h1.1
  omega
theorem shufC_at (code : List Int) (i : Nat) (c : Cu) : (shufC code i c).at' ≤ c.at' + 4 := by
  unfold shufC
  have := pickC_at code ((i : Int) + 1) c
  have := pickC_at code 3 (pickC code ((i : Int) + 1) c)
  omega
def shuf (code : List Int) : Nat → List (Int × Int) → Cu → List (Int × Int) × Cu
  | 0, es, c => (es, c)
  | i + 1, es, c => shuf code i (swapAt es (i + 1) (shufI code (i + 1) c).toNat) (shufC code (i + 1) c)
theorem shuf_len (code : List Int) : ∀ (i : Nat) (es : List (Int × Int)) (c : Cu), (shuf code i es c).1.length = es.length
  | 0, es, c => rfl
  | i + 1, es, c => by
    rw [shuf, shuf_len code i, swapAt_len]

def kindT (x : Int) : Int := if x = 0 then 1 else if x < 3 then 2 else if x < 6 then 3 else 4
theorem kindT_bd (x : Int) : 1 ≤ kindT x ∧ kindT x ≤ 4 := by
  unfold kindT
  repeat' split
  all_goals omega
def jtKind (code : List Int) (es : List (Int × Int)) (c : Cu) : Int := if kindT (pickV code 7 c) > (es.length : Int) then 1 else kindT (pickV code 7 c)
def jtDraw (code : List Int) (n : Nat) (es : List (Int × Int)) (c : Cu) : Jt := ⟨jtKind code es c, if 3 ≤ jtKind code es c then nameP (100 + (n : Int)) else ⟨#[]⟩, es.take (jtKind code es c).toNat⟩
theorem jtKind_bd (code : List Int) (es : List (Int × Int)) (c : Cu) (h : 0 < es.length) : 1 ≤ jtKind code es c ∧ jtKind code es c ≤ 4 ∧ jtKind code es c ≤ es.length := by
  unfold jtKind kindT
  have := pickV_bd (code := code) (n := 7) (by omega) c
  repeat' split
  all_goals omega
def jrun (code : List Int) : Nat → List Jt → List (Int × Int) → Cu → List Jt
  | 0, js, _, _ => js
  | f + 1, js, es, c => if es.length = 0 then js else jrun code f (js ++ [jtDraw code js.length es c]) (es.drop (jtKind code es c).toNat) (pickC code 7 c)
theorem jrun_fuel (code : List Int) : ∀ (f g : Nat) (js : List Jt) (es : List (Int × Int)) (c : Cu), es.length ≤ f → es.length ≤ g → jrun code f js es c = jrun code g js es c
  | 0, 0, js, es, c, _, _ => rfl
  | 0, g + 1, js, es, c, hf, _ => by
    have : es.length = 0 := by omega
    simp [jrun, this]
  | f + 1, 0, js, es, c, _, hg => by
    have : es.length = 0 := by omega
    simp [jrun, this]
  | f + 1, g + 1, js, es, c, hf, hg => by
    rw [jrun, jrun]
    split
    · rfl
    · rename_i h0
      have := jtKind_bd code es c (by omega)
      exact jrun_fuel code f g _ _ _ (by simp; omega) (by simp; omega)

/-- The track that is drawn. -/
def netP (code : List Int) (c : Cu) : Nt :=
  let small := pickV code 4 c
  let c1 := pickC code 4 c
  let K := (1 + pickV code 9 c1).toNat
  let P := pcsTo code small (pickC code 9 c1) K
  let E := shuf code (2 * K - 1) (endsTo K) P.2
  ⟨P.1, jrun code (2 * K) [] E.1 E.2⟩

/-! ### Rows of ends -/
theorem endCells_len (es : List (Int × Int)) : (endCells es).length = es.length * 2 := by
  induction es with
  | nil => rfl
  | cons e es ih =>
    show (.int .i64 e.1 :: .int .i64 e.2 :: endCells es).length = _
    simp [ih]; omega
theorem endCells_at (ps : List (Int × Int)) : ∀ k (hk : k < ps.length), (endCells ps)[k * 2]? = some (.int .i64 ps[k].1) ∧ (endCells ps)[k * 2 + 1]? = some (.int .i64 ps[k].2) := by
  induction ps with
  | nil => intro k hk; simp at hk
  | cons p ps ih =>
    intro k hk
    have e : endCells (p :: ps) = .int .i64 p.1 :: .int .i64 p.2 :: endCells ps := rfl
    rw [e]
    cases k with
    | zero => exact ⟨rfl, rfl⟩
    | succ k =>
      have := ih k (by simpa using hk)
      have e3 : (k + 1) * 2 = k * 2 + 1 + 1 := by omega
      rw [e3]
      simpa using this
theorem endCells_set (ps : List (Int × Int)) : ∀ k (_ : k < ps.length) (x y : Int), ((endCells ps).set (k * 2) (.int .i64 x)).set (k * 2 + 1) (.int .i64 y) = endCells (ps.set k (x, y)) := by
  induction ps with
  | nil => intro k hk; simp at hk
  | cons p ps ih =>
    intro k hk x y
    have e : ∀ (p : Int × Int) (ps : List (Int × Int)), endCells (p :: ps) = .int .i64 p.1 :: .int .i64 p.2 :: endCells ps := fun _ _ => rfl
    cases k with
    | zero => rw [e]; simp [e]
    | succ k =>
      have := ih k (by simpa using hk) x y
      have e3 : (k + 1) * 2 = k * 2 + 1 + 1 := by omega
      rw [e3, e, List.set_cons_succ, List.set_cons_succ, List.set_cons_succ, List.set_cons_succ, this]
      rfl
theorem ends_get {w : World} {base g cap : Nat} {T : TypeId} {n : Nat} {es : List (Int × Int)} (h : w.ownsRow base T 2 (.slice (some ⟨g, 0, none⟩) n cap) n (endCells es)) (hl : es.length = n) {k : Nat} (hk : k < es.length) :
    w.cell? ⟨g, k * 2, none⟩ = some (.int .i64 es[k].1) ∧ w.cell? ⟨g, k * 2 + 1, none⟩ = some (.int .i64 es[k].2) ∧ w.frozen? ⟨g, k * 2, none⟩ = false ∧ w.frozen? ⟨g, k * 2 + 1, none⟩ = false := by
  obtain ⟨h1, h2⟩ := endCells_at es k hk
  exact ⟨by rw [h.cellAt _ (by omega), h1], by rw [h.cellAt _ (by omega), h2], h.frozenAt _, h.frozenAt _⟩
theorem ends_put {w : World} {base g cap : Nat} {T : TypeId} {n : Nat} {es : List (Int × Int)} (h : w.ownsRow base T 2 (.slice (some ⟨g, 0, none⟩) n cap) n (endCells es)) {k : Nat} (hk : k < es.length) (x y : Int) :
    ((w.setCell ⟨g, k * 2, none⟩ (.int .i64 x)).setCell ⟨g, k * 2 + 1, none⟩ (.int .i64 y)).ownsRow base T 2 (.slice (some ⟨g, 0, none⟩) n cap) n (endCells (es.set k (x, y))) := by
  rw [← endCells_set es k hk x y]
  exact ((h.stored _ _).1.stored _ _).1
theorem ends_at_of {w : World} {base g cap : Nat} {T : TypeId} {n : Nat} {es : List (Int × Int)} (h : w.ownsRow base T 2 (.slice (some ⟨g, 0, none⟩) n cap) n (endCells es)) (hl : es.length = n) : EndsAt w (some ⟨g, 0, none⟩) es := by
  intro k hk
  obtain ⟨h1, h2, _⟩ := ends_get h hl hk
  exact ⟨g, 0, rfl, by rw [Nat.zero_add]; exact h1, by rw [Nat.zero_add]; exact h2⟩
end Go.Proofs.YtcodpnkfpmjleaaGreatDoor

/- Drawn tracks: the joints as they lie while a track is made. Own work. -/
namespace Go.Proofs.YtcodpnkfpmjleaaGreatDoor
open Go.RowKit
set_option maxHeartbeats 1000000

/-- A joint, where its ends lie, and their room. -/
structure Jr where
  jt : Jt
  ad : Option Addr
  cap : Nat
def jtCells (js : List Jr) : List Value := js.flatMap fun t => [.int .i64 t.jt.kind, .string t.jt.name, .slice t.ad t.jt.ends.length t.cap]
theorem jtCells_add (js : List Jr) (t : Jr) : jtCells (js ++ [t]) = jtCells js ++ [.int .i64 t.jt.kind, .string t.jt.name, .slice t.ad t.jt.ends.length t.cap] := by simp [jtCells]
theorem jtCells_at (js : List Jr) : ∀ k (hk : k < js.length), (jtCells js)[k * 3]? = some (.int .i64 js[k].jt.kind) ∧ (jtCells js)[k * 3 + 1]? = some (.string js[k].jt.name) ∧ (jtCells js)[k * 3 + 2]? = some (.slice js[k].ad js[k].jt.ends.length js[k].cap) := by
  induction js with
  | nil => intro k hk; simp at hk
  | cons p ps ih =>
    intro k hk
    have e : jtCells (p :: ps) = .int .i64 p.jt.kind :: .string p.jt.name :: .slice p.ad p.jt.ends.length p.cap :: jtCells ps := rfl
    rw [e]
    cases k with
    | zero => exact ⟨rfl, rfl, rfl⟩
    | succ k =>
      have := ih k (by simpa using hk)
      have e3 : (k + 1) * 3 = k * 3 + 1 + 1 + 1 := by omega
      rw [e3]
      simpa using this
theorem pcCells_at (ps : List Pc) : ∀ k (hk : k < ps.length), (pcCells ps)[k * 4]? = some (.string ps[k].name) ∧ (pcCells ps)[k * 4 + 1]? = some (.int .i64 ps[k].len) ∧ (pcCells ps)[k * 4 + 2]? = some (.int .i64 ps[k].speed) ∧ (pcCells ps)[k * 4 + 3]? = some (.int .i64 ps[k].brake) := by
  induction ps with
  | nil => intro k hk; simp at hk
  | cons p ps ih =>
    intro k hk
    have e : pcCells (p :: ps) = .string p.name :: .int .i64 p.len :: .int .i64 p.speed :: .int .i64 p.brake :: pcCells ps := rfl
    rw [e]
    cases k with
    | zero => exact ⟨rfl, rfl, rfl, rfl⟩
    | succ k =>
      have := ih k (by simpa using hk)
      have e3 : (k + 1) * 4 = k * 4 + 1 + 1 + 1 + 1 := by omega
      rw [e3]
      simpa using this

/-- The ends of a joint lie in a block of their own kind. -/
def EndsIn (w : World) (base : Nat) (t : Jr) : Prop := ∃ eb cs fr, t.ad = some ⟨eb, 0, none⟩ ∧ base ≤ eb ∧ w.heap[eb]? = some (.cells cs 75 fr) ∧ EndsAt w t.ad t.jt.ends
theorem EndsIn.of_block {w w' : World} {base : Nat} {t : Jr} (h : EndsIn w base t) (hb : ∀ eb, base ≤ eb → eb < w.heap.size → (∃ cs fr, w.heap[eb]? = some (.cells cs 75 fr)) → w'.heap[eb]? = w.heap[eb]?) : EndsIn w' base t := by
  obtain ⟨eb, cs, fr, h1, h2, h3, h4⟩ := h
  have hl := (Array.getElem?_eq_some_iff.1 h3).1
  have e := hb eb h2 hl ⟨cs, fr, h3⟩
  refine ⟨eb, cs, fr, h1, h2, by rw [e]; exact h3, fun k hk => ?_⟩
  obtain ⟨b, off, ha, c0, c1⟩ := h4 k hk
  have : b = eb := by rw [h1] at ha; simp at ha; exact ha.1.symm
  subst this
  exact ⟨b, off, ha, by rw [World.cell?_of_block (w := w) (w' := w') (a := ⟨b, off + k * 2, none⟩) e]; exact c0, by rw [World.cell?_of_block (w := w) (w' := w') (a := ⟨b, off + k * 2 + 1, none⟩) e]; exact c1⟩
/-- The joints that were made. -/
structure JR (w : World) (base : Nat) (jv : Value) (js : List Jr) : Prop where
  own : w.ownsRow base 69 3 jv js.length (jtCells js)
  ends : ∀ t ∈ js, EndsIn w base t
theorem JR.nil (w : World) (base : Nat) : JR w base (.slice none 0 0) [] := ⟨World.ownsRow_nil _ _ _ _, fun t h => by simp at h⟩
theorem JR.later {w w' : World} {base : Nat} {jv : Value} {js : List Jr} (h : JR w base jv js) (hb : Below w.heap.size w w') : JR w' base jv js :=
  ⟨owns_later' h.own hb, fun t ht => (h.ends t ht).of_block fun eb _ hl _ => hb.block eb hl⟩
theorem JR.mid {w w' : World} {base B C : Nat} {jv : Value} {js : List Jr} (h : JR w base jv js) (hm : Mid B C w w') (hC : C ≤ base) : JR w' base jv js :=
  ⟨owns_mid h.own hm hC, fun t ht => (h.ends t ht).of_block fun eb hb hl _ => hm.block eb hl (.inr (by omega))⟩
/-- Only what was made later has turned. -/
theorem owns_midUp {B C : Nat} {w w' : World} {base : Nat} {e : TypeId} {size : Nat} {v : Value} {n : Nat} {xs : List Value} (h : w.ownsRow base e size v n xs) (hm : Mid B C w w') (hB : ∀ g, v.ownBlock = some g → g < B) : w'.ownsRow base e size v n xs := by
  refine ⟨h.1, ?_⟩
  rcases h.2 with h | ⟨g, cap, cur, rfl, hbg, hg, rest⟩
  · exact .inl h
  · exact .inr ⟨g, cap, cur, rfl, hbg, by rw [hm.block g (Array.getElem?_eq_some_iff.1 hg).1 (.inl (hB g rfl))]; exact hg, rest⟩
/-- All that the joints take lies below H. -/
def JR.Low (H : Nat) (jv : Value) (js : List Jr) : Prop := (∀ g, jv.ownBlock = some g → g < H) ∧ ∀ t ∈ js, ∀ eb, t.ad = some ⟨eb, 0, none⟩ → eb < H
theorem JR.low {w : World} {base : Nat} {jv : Value} {js : List Jr} (h : JR w base jv js) : JR.Low w.heap.size jv js := by
  refine ⟨fun g hg => (h.own.lt g hg).2, fun t ht eb he => ?_⟩
  obtain ⟨eb', cs, fr, h1, _, h3, _⟩ := h.ends t ht
  rw [h1] at he
  obtain rfl : eb' = eb := by simpa using he
  exact (Array.getElem?_eq_some_iff.1 h3).1
theorem JR.midUp {w w' : World} {base B C : Nat} {jv : Value} {js : List Jr} (h : JR w base jv js) (hm : Mid B C w w') (hl : JR.Low B jv js) : JR w' base jv js := by
  refine ⟨owns_midUp h.own hm hl.1, fun t ht => ?_⟩
  obtain ⟨eb, cs, fr, h1, h2, h3, h4⟩ := h.ends t ht
  have hlt := hl.2 t ht eb h1
  have e := hm.block eb (Array.getElem?_eq_some_iff.1 h3).1 (.inl hlt)
  refine ⟨eb, cs, fr, h1, h2, by rw [e]; exact h3, fun k hk => ?_⟩
  obtain ⟨b, off, ha, c0, c1⟩ := h4 k hk
  have : b = eb := by rw [h1] at ha; simp at ha; exact ha.1.symm
  subst this
  exact ⟨b, off, ha, hm.cell (.inl hlt) c0, hm.cell (.inl hlt) c1⟩
theorem JR.other {w : World} {base : Nat} {jv : Value} {js : List Jr} (h : JR w base jv js) {g : Nat} (hg : ∃ cs fr, w.heap[g]? = some (.cells cs 75 fr)) : some g ≠ jv.ownBlock := by
  obtain ⟨cs, fr, he⟩ := hg
  intro e
  rcases h.own.2 with ⟨rfl, _⟩ | ⟨g', cap, cur, rfl, _, hgg, _⟩
  · simp [Value.ownBlock] at e
  · have : g = g' := by simpa [Value.ownBlock] using e
    subst this
    rw [he] at hgg
    injection hgg with hgg
    injection hgg with _ h2 _
    exact absurd h2 (by decide)
theorem ends_block {w w' : World} {g o : Nat} {es : List (Int × Int)} (h : EndsAt w (some ⟨g, o, none⟩) es) (he : w'.heap[g]? = w.heap[g]?) : EndsAt w' (some ⟨g, o, none⟩) es := by
  intro k hk
  obtain ⟨b, off, ha, c0, c1⟩ := h k hk
  obtain ⟨rfl, rfl⟩ : g = b ∧ o = off := by simpa using ha
  exact ⟨g, o, rfl, by rw [World.cell?_of_block (w := w) (w' := w') (a := ⟨g, o + k * 2, none⟩) he]; exact c0, by rw [World.cell?_of_block (w := w) (w' := w') (a := ⟨g, o + k * 2 + 1, none⟩) he]; exact c1⟩
theorem ends_drop {w : World} {g o : Nat} {es : List (Int × Int)} (h : EndsAt w (some ⟨g, o, none⟩) es) (m : Nat) : EndsAt w (some ⟨g, o + m * 2, none⟩) (es.drop m) := by
  intro k hk
  have hk' : m + k < es.length := by simp at hk; omega
  obtain ⟨b, off, ha, c0, c1⟩ := h (m + k) hk'
  obtain ⟨rfl, rfl⟩ : g = b ∧ o = off := by simpa using ha
  have e : (es.drop m)[k] = es[m + k] := by simp
  rw [e]
  exact ⟨g, o + m * 2, rfl, by rw [show o + m * 2 + k * 2 = o + (m + k) * 2 by omega]; exact c0, by rw [show o + m * 2 + k * 2 + 1 = o + (m + k) * 2 + 1 by omega]; exact c1⟩
theorem JR.setUp {w : World} {base B o : Nat} {jv : Value} {js : List Jr} (h : JR w base jv js) (hl : JR.Low B jv js) (v : Value) : JR (w.setCell ⟨B, o, none⟩ v) base jv js := by
  refine ⟨ownsRow_setCell_other h.own (fun e => by have := hl.1 B e; omega) v, fun t ht => ?_⟩
  obtain ⟨eb, cs, fr, h1, h2, h3, h4⟩ := h.ends t ht
  have hlt := hl.2 t ht eb h1
  have e : (w.setCell ⟨B, o, none⟩ v).heap[eb]? = w.heap[eb]? := Below.heap_setCell _ _ _ _ (by show eb ≠ B; omega)
  refine ⟨eb, cs, fr, h1, h2, by rw [e]; exact h3, ?_⟩
  rw [h1] at h4 ⊢
  exact ends_block h4 e
/-- One joint more. -/
theorem JR.add {w w' : World} {base : Nat} {jv jv' : Value} {js : List Jr} {t : Jr} (h : JR w base jv js) (hg : w.grownBy w' jv.ownBlock) (hown : w'.ownsRow base 69 3 jv' (js.length + 1) (jtCells js ++ [.int .i64 t.jt.kind, .string t.jt.name, .slice t.ad t.jt.ends.length t.cap])) (ht : EndsIn w base t) : JR w' base jv' (js ++ [t]) := by
  have hne : ∀ eb, (∃ cs fr, w.heap[eb]? = some (.cells cs 75 fr)) → some eb ≠ jv.ownBlock := by
    rintro eb ⟨cs, fr, he⟩ e
    rcases h.own.2 with ⟨rfl, _⟩ | ⟨g, cap, cur, rfl, _, hgg, _⟩
    · simp [Value.ownBlock] at e
    · have : eb = g := by simpa [Value.ownBlock] using e
      subst this
      rw [he] at hgg
      injection hgg with hgg
      injection hgg with _ h2 _
      exact absurd h2 (by decide)
  refine ⟨by rw [jtCells_add, List.length_append]; exact hown, fun u hu => ?_⟩
  rcases List.mem_append.1 hu with hu | hu
  · exact (h.ends u hu).of_block fun eb _ hl hk => hg.block eb hl (hne eb hk)
  · have : u = t := by simpa using hu
    subst this
    exact ht.of_block fun eb _ hl hk => hg.block eb hl (hne eb hk)
theorem JR.setBelow {w : World} {base : Nat} {jv : Value} {js : List Jr} (h : JR w base jv js) {B o : Nat} (hB : B < base) (v : Value) : JR (w.setCell ⟨B, o, none⟩ v) base jv js :=
  ⟨ownsRow_setCell_below h.own (by show B < base; exact hB) v, fun t ht => (h.ends t ht).of_block fun eb hb _ _ => Below.heap_setCell _ _ _ _ (by show eb ≠ B; omega)⟩

/-- What is owned as rows is a track in memory. -/
theorem pcs_at_of {w : World} {base : Nat} {pv : Value} {ps : List Pc} (h : w.ownsRow base 63 4 pv ps.length (pcCells ps)) : ∃ pa pcap, pv = .slice pa ps.length pcap ∧ PcsAt w pa ps := by
  rcases h.2 with ⟨rfl, h0⟩ | ⟨g, cap, cur, rfl, _⟩
  · refine ⟨none, 0, by rw [h0], fun k hk => by omega⟩
  · refine ⟨some ⟨g, 0, none⟩, cap, rfl, fun k hk => ?_⟩
    obtain ⟨h0, h1, h2, h3⟩ := pcCells_at ps k hk
    exact ⟨g, 0, rfl, by rw [Nat.zero_add, h.cellAt _ (by omega), h0], by rw [Nat.zero_add, h.cellAt _ (by omega), h1], by rw [Nat.zero_add, h.cellAt _ (by omega), h2], by rw [Nat.zero_add, h.cellAt _ (by omega), h3]⟩
theorem jts_at_of {w : World} {base : Nat} {jv : Value} {js : List Jr} (h : JR w base jv js) : ∃ ja jcap, jv = .slice ja (js.map (·.jt)).length jcap ∧ JtsAt w ja (js.map (·.jt)) := by
  have hl : (js.map (·.jt)).length = js.length := by simp
  rcases h.own.2 with ⟨rfl, h0⟩ | ⟨g, cap, cur, rfl, _⟩
  · refine ⟨none, 0, by rw [hl, h0], fun k hk => by omega⟩
  · refine ⟨some ⟨g, 0, none⟩, cap, by rw [hl], fun k hk => ?_⟩
    have hk' : k < js.length := by omega
    obtain ⟨h0, h1, h2⟩ := jtCells_at js k hk'
    obtain ⟨eb, cs, fr, e1, _, _, e4⟩ := h.ends js[k] (List.getElem_mem hk')
    have own := h.own
    simp only [List.getElem_map]
    exact ⟨g, 0, js[k].ad, js[k].cap, rfl, by rw [Nat.zero_add, own.cellAt _ (by omega), h0], by rw [Nat.zero_add, own.cellAt _ (by omega), h1], by rw [Nat.zero_add, own.cellAt _ (by omega), h2], e4⟩

/-- A track that lies in what was made since w. -/
def NetIn (w w' : World) (pa ja : Option Addr) (N : Nt) : Prop :=
  ∀ w2 : World, (∀ k, w.heap.size ≤ k → k < w'.heap.size → w2.heap[k]? = w'.heap[k]?) → PcsAt w2 pa N.pcs ∧ JtsAt w2 ja N.jts
theorem owns_blocks {w w2 : World} {base : Nat} {e : TypeId} {size : Nat} {v : Value} {n : Nat} {xs : List Value} (h : w.ownsRow base e size v n xs) (hk : ∀ k, base ≤ k → k < w.heap.size → w2.heap[k]? = w.heap[k]?) : w2.ownsRow base e size v n xs := by
  refine ⟨h.1, ?_⟩
  rcases h.2 with h | ⟨g, cap, cur, rfl, hbg, hg, rest⟩
  · exact .inl h
  · exact .inr ⟨g, cap, cur, rfl, hbg, by rw [hk g hbg (Array.getElem?_eq_some_iff.1 hg).1]; exact hg, rest⟩
theorem JR.blocks {w w2 : World} {base : Nat} {jv : Value} {js : List Jr} (h : JR w base jv js) (hk : ∀ k, base ≤ k → k < w.heap.size → w2.heap[k]? = w.heap[k]?) : JR w2 base jv js :=
  ⟨owns_blocks h.own hk, fun t ht => (h.ends t ht).of_block fun eb hb hl _ => hk eb hb hl⟩
theorem netIn_of {w w' : World} {base : Nat} {pa ja : Option Addr} {pcap jcap : Nat} {ps : List Pc} {js : List Jr} (hw : w.heap.size ≤ base) (hp : w'.ownsRow base 63 4 (.slice pa ps.length pcap) ps.length (pcCells ps)) (hj : JR w' base (.slice ja js.length jcap) js) : NetIn w w' pa ja ⟨ps, js.map (·.jt)⟩ := by
  intro w2 hk
  have hk' : ∀ k, base ≤ k → k < w'.heap.size → w2.heap[k]? = w'.heap[k]? := fun k h1 h2 => hk k (by omega) h2
  obtain ⟨pa', pcap', e1, hPA⟩ := pcs_at_of (owns_blocks hp hk')
  obtain ⟨ja', jcap', e2, hJA⟩ := jts_at_of (hj.blocks hk')
  obtain ⟨rfl, rfl⟩ : pa = pa' ∧ pcap = pcap' := by simpa using e1
  obtain ⟨rfl, rfl⟩ : ja = ja' ∧ jcap = jcap' := by simpa using e2
  exact ⟨hPA, hJA⟩
/-- The track that was drawn is told. -/
def NetPost (code : List Int) (c : Cu) (b : Nat) (w : World) (e : Ending) (w' : World) : Prop :=
  ∃ (pa ja : Option Addr) (pcap jcap : Nat), e = .returned (.agg #[.slice pa (netP code c).pcs.length pcap, .slice ja (netP code c).jts.length jcap]) ∧ NetIn w w' pa ja (netP code c) ∧ Mid b (b + 1) w w'
/-- Between two joints. -/
structure L3 (w wx : World) (b : Nat) (a : Option Addr) (code : List Int) (cap : Nat) (pv : Value) (ps : List Pc) (k g : Nat) (RJ : List Jt) (d od cq : Nat) (js : List Jr) (jv : Value) (es : List (Int × Int)) (cw : Cu) : Prop where
  sum : d + es.length = 2 * k
  room : es.length ≤ cq
  few : js.length ≤ d
  at' : cw.at' ≤ 2000 + 2 * d
  ea : EndsAt wx (some ⟨g, od, none⟩) es
  gb : w.heap.size + 2 ≤ g
  gl : g < wx.heap.size
  nw : NW w wx b a code cap cw pv jv
  pr : wx.ownsRow (w.heap.size + 2) 63 4 pv k (pcCells ps)
  ty : ∃ cs fr, wx.heap[g]? = some (.cells cs 75 fr)
  jr : JR wx (w.heap.size + 2) jv js
  run : jrun code es.length (js.map (·.jt)) es cw = RJ
def L3E (w wx : World) (b : Nat) (a : Option Addr) (code : List Int) (cap : Nat) (pv : Value) (ps : List Pc) (k g : Nat) (RJ : List Jt) (s4 : Value) : Prop :=
  ∃ (d od cq : Nat) (js : List Jr) (jv : Value) (es : List (Int × Int)) (cw : Cu), s4 = .slice (some ⟨g, od, none⟩) es.length cq ∧ L3 w wx b a code cap pv ps k g RJ d od cq js jv es cw

/-- Between two ends of a joint. -/
def L4E (bj kn : Nat) (kd : Int) (W5 wx : World) (es : List (Int × Int)) (i : Value) : Prop :=
  ∃ (x : Nat) (v : Value), x ≤ kn ∧ i = .int .i64 x ∧ Mid bj (bj + 1) W5 wx ∧ (wx.cell? ⟨bj, 0, none⟩ = some (.int .i64 kd) ∧ wx.cell? ⟨bj, 1, none⟩ = some (.string ⟨#[]⟩) ∧ wx.cell? ⟨bj, 2, none⟩ = some v) ∧ (∀ o, wx.frozen? ⟨bj, o, none⟩ = false) ∧ wx.ownsRow (bj + 1) 75 2 v x (endCells (es.take x))

section
variable {w wr : World} {b : Nat} {a : Option Addr} {code : List Int} {cap : Nat} {c : Cu} {pv jv : Value}
theorem NW.midUp {w2 : World} {B C : Nat} (h : NW w wr b a code cap c pv jv) (hm : Mid B C wr w2) (hB : w.heap.size + 2 ≤ B) : NW w w2 b a code cap c pv jv := by
  have hb := h.bw
  have hcur := h.cur
  exact { cur := ⟨hm.cell (.inl (by omega)) hcur.c0, hm.cell (.inl (by omega)) hcur.c1, hm.cell (.inl (by omega)) hcur.c2, hm.frozen (.inl (by omega)) hcur.c1 hcur.f1, hm.frozen (.inl (by omega)) hcur.c2 hcur.f2⟩
          bys := fun k hk => by
            obtain ⟨xb, xo, ha, hx⟩ := h.bys k hk
            have := h.off xb xo ha
            exact ⟨xb, xo, ha, hm.cell (.inl (by omega)) hx⟩
          r0 := hm.cell (.inl (by omega)) h.r0
          r1 := hm.cell (.inl (by omega)) h.r1
          rf0 := hm.frozen (.inl (by omega)) h.r0 h.rf0
          rf1 := hm.frozen (.inl (by omega)) h.r1 h.rf1
          n0 := hm.cell (.inl (by omega)) h.n0
          n1 := hm.cell (.inl (by omega)) h.n1
          nf0 := hm.frozen (.inl (by omega)) h.n0 h.nf0
          nf1 := hm.frozen (.inl (by omega)) h.n1 h.nf1
          mid := ⟨hm.os.trans h.mid.os, hm.tape.trans h.mid.tape, hm.output.trans h.mid.output, Nat.le_trans h.mid.size hm.size, fun k hk hc => (hm.block k (Nat.lt_of_lt_of_le hk h.mid.size) (.inl (by omega))).trans (h.mid.block k hk hc)⟩
          bw := h.bw
          off := h.off }
end
end Go.Proofs.YtcodpnkfpmjleaaGreatDoor

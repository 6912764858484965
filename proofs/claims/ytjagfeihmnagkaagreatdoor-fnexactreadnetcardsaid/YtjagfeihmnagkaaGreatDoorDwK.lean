/- spec.l5copy: a track copied, all rows its own. Own work. -/
import Derived.Test.YtjagfeihmnagkaaGreatDoorDwF
import Derived.Deep.RegionLaw
import Derived.Deep.CutRange
import Derived.Deep.DeepCutAuto
namespace Go.Proofs.YtjagfeihmnagkaaGreatDoor
open Go.RowKit
set_option maxHeartbeats 8000000

/-- The joints of a copy: each joint's ends are a row of their own. -/
structure KR (w : World) (base : Nat) (jv : Value) (js : List Jr) : Prop where
  own : w.ownsRow base 58 3 jv js.length (jtCells js)
  ends : ∀ t ∈ js, ∃ eb, t.ad = some ⟨eb, 0, none⟩ ∧ w.ownsRow base 60 2 (.slice t.ad t.jt.ends.length t.cap) t.jt.ends.length (endCells t.jt.ends)
  apart : js.Pairwise fun s t => s.ad ≠ t.ad
theorem KR.nil (w : World) (base : Nat) : KR w base (.slice none 0 0) [] := ⟨World.ownsRow_nil _ _ _ _, fun t h => by simp at h, List.Pairwise.nil⟩
theorem KR.later {w w' : World} {base : Nat} {jv : Value} {js : List Jr} (h : KR w base jv js) (hb : Below w.heap.size w w') : KR w' base jv js :=
  ⟨owns_later' h.own hb, fun t ht => by obtain ⟨eb, h1, h2⟩ := h.ends t ht; exact ⟨eb, h1, owns_later' h2 hb⟩, h.apart⟩
/-- All that the joints take lies below H. -/
def KLow (H : Nat) (jv : Value) (js : List Jr) : Prop := (∀ g, jv.ownBlock = some g → g < H) ∧ ∀ t ∈ js, ∀ eb, t.ad = some ⟨eb, 0, none⟩ → eb < H
theorem own_slice (eb n cap : Nat) : (Value.slice (some ⟨eb, 0, none⟩) n cap).ownBlock = some eb := rfl
theorem KR.low {w : World} {base : Nat} {jv : Value} {js : List Jr} (h : KR w base jv js) : KLow w.heap.size jv js := by
  refine ⟨fun g hg => (h.own.lt g hg).2, fun t ht eb he => ?_⟩
  obtain ⟨eb', h1, h2⟩ := h.ends t ht
  rw [he] at h2
  exact (h2.lt eb (own_slice _ _ _)).2
theorem KR.midUp {w w' : World} {base B C : Nat} {jv : Value} {js : List Jr} (h : KR w base jv js) (hm : Mid B C w w') (hl : KLow B jv js) : KR w' base jv js := by
  refine ⟨owns_midUp h.own hm hl.1, fun t ht => ?_, h.apart⟩
  obtain ⟨eb, h1, h2⟩ := h.ends t ht
  refine ⟨eb, h1, owns_midUp h2 hm fun g hg => ?_⟩
  rw [h1, own_slice] at hg
  obtain rfl : eb = g := by simpa using hg
  exact hl.2 t ht eb h1
theorem KR.setBelow {w : World} {base : Nat} {jv : Value} {js : List Jr} (h : KR w base jv js) {B o : Nat} (hB : B < base) (v : Value) : KR (w.setCell ⟨B, o, none⟩ v) base jv js :=
  ⟨ownsRow_setCell_below h.own (by show B < base; exact hB) v, fun t ht => by obtain ⟨eb, h1, h2⟩ := h.ends t ht; exact ⟨eb, h1, ownsRow_setCell_below h2 (by show B < base; exact hB) v⟩, h.apart⟩
/-- One joint more. -/
theorem KR.add {w w' : World} {base H eb : Nat} {jv jv' : Value} {js : List Jr} {t : Jr} (h : KR w base jv js) (hg : w.grownBy w' jv.ownBlock) (hown : w'.ownsRow base 58 3 jv' (js.length + 1) (jtCells js ++ [.int .i64 t.jt.kind, .string t.jt.name, .slice t.ad t.jt.ends.length t.cap])) (ht : t.ad = some ⟨eb, 0, none⟩) (hte : w.ownsRow base 60 2 (.slice t.ad t.jt.ends.length t.cap) t.jt.ends.length (endCells t.jt.ends)) (hl : KLow H jv js) (hH : H ≤ eb) : KR w' base jv' (js ++ [t]) := by
  refine ⟨by rw [jtCells_add, List.length_append]; exact hown, fun u hu => ?_, ?_⟩
  · rcases List.mem_append.1 hu with hu | hu
    · obtain ⟨eb, h1, h2⟩ := h.ends u hu
      exact ⟨eb, h1, owns_kept h2 h.own (by decide) hg⟩
    · have : u = t := by simpa using hu
      subst this
      exact ⟨eb, ht, owns_kept hte h.own (by decide) hg⟩
  · rw [List.pairwise_append]
    refine ⟨h.apart, by simp, fun s hs u hu => ?_⟩
    have : u = t := by simpa using hu
    subst this
    rw [ht]
    intro e
    have := hl.2 s hs eb e
    omega
theorem kjts_at_of {w : World} {base : Nat} {jv : Value} {js : List Jr} (h : KR w base jv js) : ∃ ja jcap, jv = .slice ja js.length jcap ∧ JtsAt w ja (js.map (·.jt)) := by
  rcases h.own.2 with ⟨rfl, h0⟩ | ⟨g, cap, cur, rfl, _⟩
  · refine ⟨none, 0, by rw [h0], fun k hk => by simp at hk; omega⟩
  · refine ⟨some ⟨g, 0, none⟩, cap, rfl, fun k hk => ?_⟩
    have hk' : k < js.length := by simpa using hk
    obtain ⟨h0, h1, h2⟩ := jtCells_at js k hk'
    obtain ⟨eb, e1, e2⟩ := h.ends js[k] (List.getElem_mem hk')
    have own := h.own
    simp only [List.getElem_map]
    exact ⟨g, 0, js[k].ad, js[k].cap, rfl, by rw [Nat.zero_add, own.cellAt _ (by omega), h0], by rw [Nat.zero_add, own.cellAt _ (by omega), h1], by rw [Nat.zero_add, own.cellAt _ (by omega), h2], by rw [e1] at e2 ⊢; exact ends_at_of e2 rfl⟩

/-- What lies where while a track is copied. -/
structure CW (w wr : World) (xp xj pv jv : Value) : Prop where
  x0 : wr.cell? ⟨w.heap.size, 0, none⟩ = some xp
  x1 : wr.cell? ⟨w.heap.size, 1, none⟩ = some xj
  r0 : wr.cell? ⟨w.heap.size + 1, 0, none⟩ = some (.slice none 0 0)
  r1 : wr.cell? ⟨w.heap.size + 1, 1, none⟩ = some (.slice none 0 0)
  rf0 : wr.frozen? ⟨w.heap.size + 1, 0, none⟩ = false
  rf1 : wr.frozen? ⟨w.heap.size + 1, 1, none⟩ = false
  n0 : wr.cell? ⟨w.heap.size + 1 + 1, 0, none⟩ = some pv
  n1 : wr.cell? ⟨w.heap.size + 1 + 1, 1, none⟩ = some jv
  nf0 : wr.frozen? ⟨w.heap.size + 1 + 1, 0, none⟩ = false
  nf1 : wr.frozen? ⟨w.heap.size + 1 + 1, 1, none⟩ = false
  bel : Below w.heap.size w wr
section
variable {w wr w2 : World} {xp xj pv jv : Value}
theorem CW.size (h : CW w wr xp xj pv jv) : w.heap.size + 3 ≤ wr.heap.size := cell_lt h.n0
theorem CW.mid {B C : Nat} (h : CW w wr xp xj pv jv) (hm : Mid B C wr w2) (hB : w.heap.size + 3 ≤ B) : CW w w2 xp xj pv jv where
  x0 := hm.cell (.inl (by omega)) h.x0
  x1 := hm.cell (.inl (by omega)) h.x1
  r0 := hm.cell (.inl (by omega)) h.r0
  r1 := hm.cell (.inl (by omega)) h.r1
  rf0 := hm.frozen (.inl (by omega)) h.r0 h.rf0
  rf1 := hm.frozen (.inl (by omega)) h.r1 h.rf1
  n0 := hm.cell (.inl (by omega)) h.n0
  n1 := hm.cell (.inl (by omega)) h.n1
  nf0 := hm.frozen (.inl (by omega)) h.n0 h.nf0
  nf1 := hm.frozen (.inl (by omega)) h.n1 h.nf1
  bel := ⟨hm.os.trans h.bel.os, hm.tape.trans h.bel.tape, hm.output.trans h.bel.output, Nat.le_trans h.bel.size hm.size, fun k hk => (hm.block k (by have := h.bel.size; omega) (.inl (by omega))).trans (h.bel.block k hk)⟩
theorem CW.later (h : CW w wr xp xj pv jv) (hb : Below wr.heap.size wr w2) : CW w w2 xp xj pv jv := h.mid (Mid.of_below (B := w.heap.size + 3) (C := w.heap.size + 3) hb) (Nat.le_refl _)
theorem CW.grown {row : Option Nat} (h : CW w wr xp xj pv jv) (hg : wr.grownBy w2 row) (hrow : ∀ g, row = some g → w.heap.size + 3 ≤ g) : CW w w2 xp xj pv jv := by
  have hne : ∀ B, B < w.heap.size + 3 → some B ≠ row := fun B hB e => by have := hrow B e.symm; omega
  have hc : ∀ (B o : Nat) (v : Value), B < w.heap.size + 3 → wr.cell? ⟨B, o, none⟩ = some v → w2.cell? ⟨B, o, none⟩ = some v := fun B o v hB hv => hg.cell hv (hne B hB)
  have hf : ∀ (B o : Nat) (v : Value), B < w.heap.size + 3 → wr.cell? ⟨B, o, none⟩ = some v → wr.frozen? ⟨B, o, none⟩ = false → w2.frozen? ⟨B, o, none⟩ = false := fun B o v hB hv hz => by
    rw [hg.frozen_far ⟨B, o, none⟩ (cell_lt hv) (hne B hB)]; exact hz
  exact { x0 := hc _ _ _ (by omega) h.x0
          x1 := hc _ _ _ (by omega) h.x1
          r0 := hc _ _ _ (by omega) h.r0
          r1 := hc _ _ _ (by omega) h.r1
          rf0 := hf _ _ _ (by omega) h.r0 h.rf0
          rf1 := hf _ _ _ (by omega) h.r1 h.rf1
          n0 := hc _ _ _ (by omega) h.n0
          n1 := hc _ _ _ (by omega) h.n1
          nf0 := hf _ _ _ (by omega) h.n0 h.nf0
          nf1 := hf _ _ _ (by omega) h.n1 h.nf1
          bel := ⟨hg.os.trans h.bel.os, hg.tape.trans h.bel.tape, hg.output.trans h.bel.output, Nat.le_trans h.bel.size hg.size, fun k hk => (hg.block k (by have := h.bel.size; omega) (hne k (by omega))).trans (h.bel.block k hk)⟩ }
theorem CW.set0 (h : CW w wr xp xj pv jv) (v : Value) : CW w (wr.setCell ⟨w.heap.size + 1 + 1, 0, none⟩ v) xp xj v jv := by
  obtain ⟨x0, x1, r0, r1, rf0, rf1, n0, n1, nf0, nf1, bel⟩ := h
  exact { x0 := by simp [go_sem, x0], x1 := by simp [go_sem, x1], r0 := by simp [go_sem, r0], r1 := by simp [go_sem, r1], rf0 := by simp [go_sem, rf0], rf1 := by simp [go_sem, rf1], n0 := by simp [go_sem, n0], n1 := by simp [go_sem, n1], nf0 := by simp [go_sem, nf0], nf1 := by simp [go_sem, nf1], bel := bel.setCell (by simp; omega) _ }
theorem CW.set1 (h : CW w wr xp xj pv jv) (v : Value) : CW w (wr.setCell ⟨w.heap.size + 1 + 1, 1, none⟩ v) xp xj pv v := by
  obtain ⟨x0, x1, r0, r1, rf0, rf1, n0, n1, nf0, nf1, bel⟩ := h
  exact { x0 := by simp [go_sem, x0], x1 := by simp [go_sem, x1], r0 := by simp [go_sem, r0], r1 := by simp [go_sem, r1], rf0 := by simp [go_sem, rf0], rf1 := by simp [go_sem, rf1], n0 := by simp [go_sem, n0], n1 := by simp [go_sem, n1], nf0 := by simp [go_sem, nf0], nf1 := by simp [go_sem, nf1], bel := bel.setCell (by simp; omega) _ }
end

theorem owns_mono {w : World} {base base' : Nat} {e : TypeId} {size : Nat} {v : Value} {n : Nat} {xs : List Value} (h : w.ownsRow base e size v n xs) (hb : base' ≤ base) : w.ownsRow base' e size v n xs := by
  refine ⟨h.1, ?_⟩
  rcases h.2 with h | ⟨g, cap, cur, rfl, hbg, rest⟩
  · exact .inl h
  · exact .inr ⟨g, cap, cur, rfl, by omega, rest⟩
/-- Between two ends of a joint that is copied. -/
def L5E (bj : Nat) (kd : Int) (nm : ByteArray) (W5 wx : World) (es : List (Int × Int)) (i : Value) : Prop :=
  ∃ (x : Nat) (v : Value), x ≤ es.length ∧ i = .int .i64 x ∧ Mid bj (bj + 1) W5 wx ∧ (wx.cell? ⟨bj, 0, none⟩ = some (.int .i64 kd) ∧ wx.cell? ⟨bj, 1, none⟩ = some (.string nm) ∧ wx.cell? ⟨bj, 2, none⟩ = some v) ∧ (∀ o, wx.frozen? ⟨bj, o, none⟩ = false) ∧ wx.ownsRow (bj + 1) 60 2 v x (endCells (es.take x))
/-- Between two joints of a copy. -/
def L6E (w wx : World) (xp xj pv : Value) (N : Nt) (i : Value) : Prop :=
  ∃ (k : Nat) (jv : Value) (js : List Jr), k ≤ N.jts.length ∧ i = .int .i64 k ∧ js.map (·.jt) = N.jts.take k ∧ CW w wx xp xj pv jv ∧ wx.ownsRow (w.heap.size + 3) 55 4 pv N.pcs.length (pcCells N.pcs) ∧ KR wx (w.heap.size + 3) jv js

/-- What l5copy answers. -/
def CopyPost (N : Nt) (w : World) (e : Ending) (w' : World) : Prop :=
  ∃ (pa ja : Option Addr) (pcap jcap : Nat) (js : List Jr), js.map (·.jt) = N.jts ∧ e = .returned (.agg #[.slice pa N.pcs.length pcap, .slice ja N.jts.length jcap]) ∧ w'.ownsRow (w.heap.size + 3) 55 4 (.slice pa N.pcs.length pcap) N.pcs.length (pcCells N.pcs) ∧ KR w' (w.heap.size + 3) (.slice ja N.jts.length jcap) js ∧ Below w.heap.size w w'

end Go.Proofs.YtjagfeihmnagkaaGreatDoor

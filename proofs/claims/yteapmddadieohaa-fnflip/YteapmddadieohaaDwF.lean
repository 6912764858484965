/- Drawn tracks: the joints as they lie while a track is made. Own work. -/
import Derived.Test.YteapmddadieohaaDwE
namespace Go.Proofs.Yteapmddadieohaa
open Go.RowKit
set_option maxHeartbeats 1000000

/-- A joint, where its ends lie, and their room. -/
structure Jr where
  jt : Jt
  ad : Option Addr
  cap : Nat
def jtCells (js : List Jr) : List Value := js.flatMap fun t => [.int .i64 t.jt.kind, .string t.jt.name, .slice t.ad t.jt.ends.length t.cap]
theorem jtCells_add (js : List Jr) (t : Jr) : jtCells (js ++ [t]) = jtCells js ++ [.int .i64 t.jt.kind, .string t.jt.name, .slice t.ad t.jt.ends.length t.cap] := by simp [jtCells]
theorem jtCells_at (js : List Jr) : ∀ k (hk : k < js.length), (jtCells js)[k * 3]? = some (.int .i64 js[k].jt.kind) ∧ (jtCells js)[k * 3 + 1]? = some (.string js[k].jt.name) ∧ (jtCells js)[k * 3 + 2]? = some (.slice js[k].ad js[k].jt.ends.length js[k].cap) := by
  induction js with
  | nil => intro k hk; simp at hk
  | cons p ps ih =>
    intro k hk
    have e : jtCells (p :: ps) = .int .i64 p.jt.kind :: .string p.jt.name :: .slice p.ad p.jt.ends.length p.cap :: jtCells ps := rfl
    rw [e]
    cases k with
    | zero => exact ⟨rfl, rfl, rfl⟩
    | succ k =>
      have := ih k (by simpa using hk)
      have e3 : (k + 1) * 3 = k * 3 + 1 + 1 + 1 := by omega
      rw [e3]
      simpa using this
theorem pcCells_at (ps : List Pc) : ∀ k (hk : k < ps.length), (pcCells ps)[k * 4]? = some (.string ps[k].name) ∧ (pcCells ps)[k * 4 + 1]? = some (.int .i64 ps[k].len) ∧ (pcCells ps)[k * 4 + 2]? = some (.int .i64 ps[k].speed) ∧ (pcCells ps)[k * 4 + 3]? = some (.int .i64 ps[k].brake) := by
  induction ps with
  | nil => intro k hk; simp at hk
  | cons p ps ih =>
    intro k hk
    have e : pcCells (p :: ps) = .string p.name :: .int .i64 p.len :: .int .i64 p.speed :: .int .i64 p.brake :: pcCells ps := rfl
    rw [e]
    cases k with
    | zero => exact ⟨rfl, rfl, rfl, rfl⟩
    | succ k =>
      have := ih k (by simpa using hk)
      have e3 : (k + 1) * 4 = k * 4 + 1 + 1 + 1 + 1 := by omega
      rw [e3]
      simpa using this

/-- The ends of a joint lie in a block of their own kind. -/
def EndsIn (w : World) (base : Nat) (t : Jr) : Prop := ∃ eb cs fr, t.ad = some ⟨eb, 0, none⟩ ∧ base ≤ eb ∧ w.heap[eb]? = some (.cells cs 59 fr) ∧ EndsAt w t.ad t.jt.ends
theorem EndsIn.of_block {w w' : World} {base : Nat} {t : Jr} (h : EndsIn w base t) (hb : ∀ eb, base ≤ eb → eb < w.heap.size → (∃ cs fr, w.heap[eb]? = some (.cells cs 59 fr)) → w'.heap[eb]? = w.heap[eb]?) : EndsIn w' base t := by
  obtain ⟨eb, cs, fr, h1, h2, h3, h4⟩ := h
  have hl := (Array.getElem?_eq_some_iff.1 h3).1
  have e := hb eb h2 hl ⟨cs, fr, h3⟩
  refine ⟨eb, cs, fr, h1, h2, by rw [e]; exact h3, fun k hk => ?_⟩
  obtain ⟨b, off, ha, c0, c1⟩ := h4 k hk
  have : b = eb := by rw [h1] at ha; simp at ha; exact ha.1.symm
  subst this
  exact ⟨b, off, ha, by rw [World.cell?_of_block (w := w) (w' := w') (a := ⟨b, off + k * 2, none⟩) e]; exact c0, by rw [World.cell?_of_block (w := w) (w' := w') (a := ⟨b, off + k * 2 + 1, none⟩) e]; exact c1⟩
/-- The joints that were made. -/
structure JR (w : World) (base : Nat) (jv : Value) (js : List Jr) : Prop where
  own : w.ownsRow base 53 3 jv js.length (jtCells js)
  ends : ∀ t ∈ js, EndsIn w base t
theorem JR.nil (w : World) (base : Nat) : JR w base (.slice none 0 0) [] := ⟨World.ownsRow_nil _ _ _ _, fun t h => by simp at h⟩
theorem JR.later {w w' : World} {base : Nat} {jv : Value} {js : List Jr} (h : JR w base jv js) (hb : Below w.heap.size w w') : JR w' base jv js :=
  ⟨owns_later' h.own hb, fun t ht => (h.ends t ht).of_block fun eb _ hl _ => hb.block eb hl⟩
theorem JR.mid {w w' : World} {base B C : Nat} {jv : Value} {js : List Jr} (h : JR w base jv js) (hm : Mid B C w w') (hC : C ≤ base) : JR w' base jv js :=
  ⟨owns_mid h.own hm hC, fun t ht => (h.ends t ht).of_block fun eb hb hl _ => hm.block eb hl (.inr (by omega))⟩
/-- Only what was made later has turned. -/
theorem owns_midUp {B C : Nat} {w w' : World} {base : Nat} {e : TypeId} {size : Nat} {v : Value} {n : Nat} {xs : List Value} (h : w.ownsRow base e size v n xs) (hm : Mid B C w w') (hB : ∀ g, v.ownBlock = some g → g < B) : w'.ownsRow base e size v n xs := by
  refine ⟨h.1, ?_⟩
  rcases h.2 with h | ⟨g, cap, cur, rfl, hbg, hg, rest⟩
  · exact .inl h
  · exact .inr ⟨g, cap, cur, rfl, hbg, by rw [hm.block g (Array.getElem?_eq_some_iff.1 hg).1 (.inl (hB g rfl))]; exact hg, rest⟩
/-- All that the joints take lies below H. -/
def JR.Low (H : Nat) (jv : Value) (js : List Jr) : Prop := (∀ g, jv.ownBlock = some g → g < H) ∧ ∀ t ∈ js, ∀ eb, t.ad = some ⟨eb, 0, none⟩ → eb < H
theorem JR.low {w : World} {base : Nat} {jv : Value} {js : List Jr} (h : JR w base jv js) : JR.Low w.heap.size jv js := by
  refine ⟨fun g hg => (h.own.lt g hg).2, fun t ht eb he => ?_⟩
  obtain ⟨eb', cs, fr, h1, _, h3, _⟩ := h.ends t ht
  rw [h1] at he
  obtain rfl : eb' = eb := by simpa using he
  exact (Array.getElem?_eq_some_iff.1 h3).1
theorem JR.midUp {w w' : World} {base B C : Nat} {jv : Value} {js : List Jr} (h : JR w base jv js) (hm : Mid B C w w') (hl : JR.Low B jv js) : JR w' base jv js := by
  refine ⟨owns_midUp h.own hm hl.1, fun t ht => ?_⟩
  obtain ⟨eb, cs, fr, h1, h2, h3, h4⟩ := h.ends t ht
  have hlt := hl.2 t ht eb h1
  have e := hm.block eb (Array.getElem?_eq_some_iff.1 h3).1 (.inl hlt)
  refine ⟨eb, cs, fr, h1, h2, by rw [e]; exact h3, fun k hk => ?_⟩
  obtain ⟨b, off, ha, c0, c1⟩ := h4 k hk
  have : b = eb := by rw [h1] at ha; simp at ha; exact ha.1.symm
  subst this
  exact ⟨b, off, ha, hm.cell (.inl hlt) c0, hm.cell (.inl hlt) c1⟩
theorem JR.other {w : World} {base : Nat} {jv : Value} {js : List Jr} (h : JR w base jv js) {g : Nat} (hg : ∃ cs fr, w.heap[g]? = some (.cells cs 59 fr)) : some g ≠ jv.ownBlock := by
  obtain ⟨cs, fr, he⟩ := hg
  intro e
  rcases h.own.2 with ⟨rfl, _⟩ | ⟨g', cap, cur, rfl, _, hgg, _⟩
  · simp [Value.ownBlock] at e
  · have : g = g' := by simpa [Value.ownBlock] using e
    subst this
    rw [he] at hgg
    injection hgg with hgg
    injection hgg with _ h2 _
    exact absurd h2 (by decide)
theorem ends_block {w w' : World} {g o : Nat} {es : List (Int × Int)} (h : EndsAt w (some ⟨g, o, none⟩) es) (he : w'.heap[g]? = w.heap[g]?) : EndsAt w' (some ⟨g, o, none⟩) es := by
  intro k hk
  obtain ⟨b, off, ha, c0, c1⟩ := h k hk
  obtain ⟨rfl, rfl⟩ : g = b ∧ o = off := by simpa using ha
  exact ⟨g, o, rfl, by rw [World.cell?_of_block (w := w) (w' := w') (a := ⟨g, o + k * 2, none⟩) he]; exact c0, by rw [World.cell?_of_block (w := w) (w' := w') (a := ⟨g, o + k * 2 + 1, none⟩) he]; exact c1⟩
theorem ends_drop {w : World} {g o : Nat} {es : List (Int × Int)} (h : EndsAt w (some ⟨g, o, none⟩) es) (m : Nat) : EndsAt w (some ⟨g, o + m * 2, none⟩) (es.drop m) := by
  intro k hk
  have hk' : m + k < es.length := by simp at hk; omega
  obtain ⟨b, off, ha, c0, c1⟩ := h (m + k) hk'
  obtain ⟨rfl, rfl⟩ : g = b ∧ o = off := by simpa using ha
  have e : (es.drop m)[k] = es[m + k] := by simp
  rw [e]
  exact ⟨g, o + m * 2, rfl, by rw [show o + m * 2 + k * 2 = o + (m + k) * 2 by omega]; exact c0, by rw [show o + m * 2 + k * 2 + 1 = o + (m + k) * 2 + 1 by omega]; exact c1⟩
theorem JR.setUp {w : World} {base B o : Nat} {jv : Value} {js : List Jr} (h : JR w base jv js) (hl : JR.Low B jv js) (v : Value) : JR (w.setCell ⟨B, o, none⟩ v) base jv js := by
  refine ⟨ownsRow_setCell_other h.own (fun e => by have := hl.1 B e; omega) v, fun t ht => ?_⟩
  obtain ⟨eb, cs, fr, h1, h2, h3, h4⟩ := h.ends t ht
  have hlt := hl.2 t ht eb h1
  have e : (w.setCell ⟨B, o, none⟩ v).heap[eb]? = w.heap[eb]? := Below.heap_setCell _ _ _ _ (by show eb ≠ B; omega)
  refine ⟨eb, cs, fr, h1, h2, by rw [e]; exact h3, ?_⟩
  rw [h1] at h4 ⊢
  exact ends_block h4 e
/-- One joint more. -/
theorem JR.add {w w' : World} {base : Nat} {jv jv' : Value} {js : List Jr} {t : Jr} (h : JR w base jv js) (hg : w.grownBy w' jv.ownBlock) (hown : w'.ownsRow base 53 3 jv' (js.length + 1) (jtCells js ++ [.int .i64 t.jt.kind, .string t.jt.name, .slice t.ad t.jt.ends.length t.cap])) (ht : EndsIn w base t) : JR w' base jv' (js ++ [t]) := by
  have hne : ∀ eb, (∃ cs fr, w.heap[eb]? = some (.cells cs 59 fr)) → some eb ≠ jv.ownBlock := by
    rintro eb ⟨cs, fr, he⟩ e
    rcases h.own.2 with ⟨rfl, _⟩ | ⟨g, cap, cur, rfl, _, hgg, _⟩
    · simp [Value.ownBlock] at e
    · have : eb = g := by simpa [Value.ownBlock] using e
      subst this
      rw [he] at hgg
      injection hgg with hgg
      injection hgg with _ h2 _
      exact absurd h2 (by decide)
  refine ⟨by rw [jtCells_add, List.length_append]; exact hown, fun u hu => ?_⟩
  rcases List.mem_append.1 hu with hu | hu
  · exact (h.ends u hu).of_block fun eb _ hl hk => hg.block eb hl (hne eb hk)
  · have : u = t := by simpa using hu
    subst this
    exact ht.of_block fun eb _ hl hk => hg.block eb hl (hne eb hk)
theorem JR.setBelow {w : World} {base : Nat} {jv : Value} {js : List Jr} (h : JR w base jv js) {B o : Nat} (hB : B < base) (v : Value) : JR (w.setCell ⟨B, o, none⟩ v) base jv js :=
  ⟨ownsRow_setCell_below h.own (by show B < base; exact hB) v, fun t ht => (h.ends t ht).of_block fun eb hb _ _ => Below.heap_setCell _ _ _ _ (by show eb ≠ B; omega)⟩

/-- What is owned as rows is a track in memory. -/
theorem pcs_at_of {w : World} {base : Nat} {pv : Value} {ps : List Pc} (h : w.ownsRow base 41 4 pv ps.length (pcCells ps)) : ∃ pa pcap, pv = .slice pa ps.length pcap ∧ PcsAt w pa ps := by
  rcases h.2 with ⟨rfl, h0⟩ | ⟨g, cap, cur, rfl, _⟩
  · refine ⟨none, 0, by rw [h0], fun k hk => by omega⟩
  · refine ⟨some ⟨g, 0, none⟩, cap, rfl, fun k hk => ?_⟩
    obtain ⟨h0, h1, h2, h3⟩ := pcCells_at ps k hk
    exact ⟨g, 0, rfl, by rw [Nat.zero_add, h.cellAt _ (by omega), h0], by rw [Nat.zero_add, h.cellAt _ (by omega), h1], by rw [Nat.zero_add, h.cellAt _ (by omega), h2], by rw [Nat.zero_add, h.cellAt _ (by omega), h3]⟩
theorem jts_at_of {w : World} {base : Nat} {jv : Value} {js : List Jr} (h : JR w base jv js) : ∃ ja jcap, jv = .slice ja (js.map (·.jt)).length jcap ∧ JtsAt w ja (js.map (·.jt)) := by
  have hl : (js.map (·.jt)).length = js.length := by simp
  rcases h.own.2 with ⟨rfl, h0⟩ | ⟨g, cap, cur, rfl, _⟩
  · refine ⟨none, 0, by rw [hl, h0], fun k hk => by omega⟩
  · refine ⟨some ⟨g, 0, none⟩, cap, by rw [hl], fun k hk => ?_⟩
    have hk' : k < js.length := by omega
    obtain ⟨h0, h1, h2⟩ := jtCells_at js k hk'
    obtain ⟨eb, cs, fr, e1, _, _, e4⟩ := h.ends js[k] (List.getElem_mem hk')
    have own := h.own
    simp only [List.getElem_map]
    exact ⟨g, 0, js[k].ad, js[k].cap, rfl, by rw [Nat.zero_add, own.cellAt _ (by omega), h0], by rw [Nat.zero_add, own.cellAt _ (by omega), h1], by rw [Nat.zero_add, own.cellAt _ (by omega), h2], e4⟩

/-- A track that lies in what was made since w. -/
def NetIn (w w' : World) (pa ja : Option Addr) (N : Nt) : Prop :=
  ∀ w2 : World, (∀ k, w.heap.size ≤ k → k < w'.heap.size → w2.heap[k]? = w'.heap[k]?) → PcsAt w2 pa N.pcs ∧ JtsAt w2 ja N.jts
theorem owns_blocks {w w2 : World} {base : Nat} {e : TypeId} {size : Nat} {v : Value} {n : Nat} {xs : List Value} (h : w.ownsRow base e size v n xs) (hk : ∀ k, base ≤ k → k < w.heap.size → w2.heap[k]? = w.heap[k]?) : w2.ownsRow base e size v n xs := by
  refine ⟨h.1, ?_⟩
  rcases h.2 with h | ⟨g, cap, cur, rfl, hbg, hg, rest⟩
  · exact .inl h
  · exact .inr ⟨g, cap, cur, rfl, hbg, by rw [hk g hbg (Array.getElem?_eq_some_iff.1 hg).1]; exact hg, rest⟩
theorem JR.blocks {w w2 : World} {base : Nat} {jv : Value} {js : List Jr} (h : JR w base jv js) (hk : ∀ k, base ≤ k → k < w.heap.size → w2.heap[k]? = w.heap[k]?) : JR w2 base jv js :=
  ⟨owns_blocks h.own hk, fun t ht => (h.ends t ht).of_block fun eb hb hl _ => hk eb hb hl⟩
theorem netIn_of {w w' : World} {base : Nat} {pa ja : Option Addr} {pcap jcap : Nat} {ps : List Pc} {js : List Jr} (hw : w.heap.size ≤ base) (hp : w'.ownsRow base 41 4 (.slice pa ps.length pcap) ps.length (pcCells ps)) (hj : JR w' base (.slice ja js.length jcap) js) : NetIn w w' pa ja ⟨ps, js.map (·.jt)⟩ := by
  intro w2 hk
  have hk' : ∀ k, base ≤ k → k < w'.heap.size → w2.heap[k]? = w'.heap[k]? := fun k h1 h2 => hk k (by omega) h2
  obtain ⟨pa', pcap', e1, hPA⟩ := pcs_at_of (owns_blocks hp hk')
  obtain ⟨ja', jcap', e2, hJA⟩ := jts_at_of (hj.blocks hk')
  obtain ⟨rfl, rfl⟩ : pa = pa' ∧ pcap = pcap' := by simpa using e1
  obtain ⟨rfl, rfl⟩ : ja = ja' ∧ jcap = jcap' := by simpa using e2
  exact ⟨hPA, hJA⟩
/-- The track that was drawn is told. -/
def NetPost (code : List Int) (c : Cu) (b : Nat) (w : World) (e : Ending) (w' : World) : Prop :=
  ∃ (pa ja : Option Addr) (pcap jcap : Nat), e = .returned (.agg #[.slice pa (netP code c).pcs.length pcap, .slice ja (netP code c).jts.length jcap]) ∧ NetIn w w' pa ja (netP code c) ∧ Mid b (b + 1) w w'
/-- Between two joints. -/
structure L3 (w wx : World) (b : Nat) (a : Option Addr) (code : List Int) (cap : Nat) (pv : Value) (ps : List Pc) (k g : Nat) (RJ : List Jt) (d od cq : Nat) (js : List Jr) (jv : Value) (es : List (Int × Int)) (cw : Cu) : Prop where
  sum : d + es.length = 2 * k
  room : es.length ≤ cq
  few : js.length ≤ d
  at' : cw.at' ≤ 2000 + 2 * d
  ea : EndsAt wx (some ⟨g, od, none⟩) es
  gb : w.heap.size + 2 ≤ g
  gl : g < wx.heap.size
  nw : NW w wx b a code cap cw pv jv
  pr : wx.ownsRow (w.heap.size + 2) 41 4 pv k (pcCells ps)
  ty : ∃ cs fr, wx.heap[g]? = some (.cells cs 59 fr)
  jr : JR wx (w.heap.size + 2) jv js
  run : jrun code es.length (js.map (·.jt)) es cw = RJ
def L3E (w wx : World) (b : Nat) (a : Option Addr) (code : List Int) (cap : Nat) (pv : Value) (ps : List Pc) (k g : Nat) (RJ : List Jt) (s4 : Value) : Prop :=
  ∃ (d od cq : Nat) (js : List Jr) (jv : Value) (es : List (Int × Int)) (cw : Cu), s4 = .slice (some ⟨g, od, none⟩) es.length cq ∧ L3 w wx b a code cap pv ps k g RJ d od cq js jv es cw

/-- Between two ends of a joint. -/
def L4E (bj kn : Nat) (kd : Int) (W5 wx : World) (es : List (Int × Int)) (i : Value) : Prop :=
  ∃ (x : Nat) (v : Value), x ≤ kn ∧ i = .int .i64 x ∧ Mid bj (bj + 1) W5 wx ∧ (wx.cell? ⟨bj, 0, none⟩ = some (.int .i64 kd) ∧ wx.cell? ⟨bj, 1, none⟩ = some (.string ⟨#[]⟩) ∧ wx.cell? ⟨bj, 2, none⟩ = some v) ∧ (∀ o, wx.frozen? ⟨bj, o, none⟩ = false) ∧ wx.ownsRow (bj + 1) 59 2 v x (endCells (es.take x))

section
variable {w wr : World} {b : Nat} {a : Option Addr} {code : List Int} {cap : Nat} {c : Cu} {pv jv : Value}
theorem NW.midUp {w2 : World} {B C : Nat} (h : NW w wr b a code cap c pv jv) (hm : Mid B C wr w2) (hB : w.heap.size + 2 ≤ B) : NW w w2 b a code cap c pv jv := by
  have hb := h.bw
  have hcur := h.cur
  exact { cur := ⟨hm.cell (.inl (by omega)) hcur.c0, hm.cell (.inl (by omega)) hcur.c1, hm.cell (.inl (by omega)) hcur.c2, hm.frozen (.inl (by omega)) hcur.c1 hcur.f1, hm.frozen (.inl (by omega)) hcur.c2 hcur.f2⟩
          bys := fun k hk => by
            obtain ⟨xb, xo, ha, hx⟩ := h.bys k hk
            have := h.off xb xo ha
            exact ⟨xb, xo, ha, hm.cell (.inl (by omega)) hx⟩
          r0 := hm.cell (.inl (by omega)) h.r0
          r1 := hm.cell (.inl (by omega)) h.r1
          rf0 := hm.frozen (.inl (by omega)) h.r0 h.rf0
          rf1 := hm.frozen (.inl (by omega)) h.r1 h.rf1
          n0 := hm.cell (.inl (by omega)) h.n0
          n1 := hm.cell (.inl (by omega)) h.n1
          nf0 := hm.frozen (.inl (by omega)) h.n0 h.nf0
          nf1 := hm.frozen (.inl (by omega)) h.n1 h.nf1
          mid := ⟨hm.os.trans h.mid.os, hm.tape.trans h.mid.tape, hm.output.trans h.mid.output, Nat.le_trans h.mid.size hm.size, fun k hk hc => (hm.block k (Nat.lt_of_lt_of_le hk h.mid.size) (.inl (by omega))).trans (h.mid.block k hk hc)⟩
          bw := h.bw
          off := h.off }
end
end Go.Proofs.Yteapmddadieohaa

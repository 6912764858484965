/- Reach: the rounds in memory. Own work. -/
import Derived.Test.YtijdigdcmjdooaaGreatMxAN
import Derived.Test.YtijdigdcmjdooaaGreatMxBC
import Derived.Test.YtijdigdcmjdooaaGreatMxAT
import Derived.Test.YtijdigdcmjdooaaGreatMxBA
import Derived.WideKeyEntry
import Derived.Test.YtijdigdcmjdooaaGreatSxI
import Derived.Deep.RegionHeld3
import Derived.Deep.RegionLaw
import Derived.Deep.AppendLies
namespace Go.Proofs.YtijdigdcmjdooaaGreat
open Go.RowKit Go.Maps Go.Joins Go.Sort
set_option maxHeartbeats 4000000
set_option maxRecDepth 100000

/-! ### m[k]++ -/
/-- An entry is opened, and written: as one update. Whoever looks in between finds what was there. -/
theorem entry2 {P : Program} {t k e : TypeId} {R : Value → Option (DataW Unit × List MemPlace)} {w : World} {b : Nat} {es : Array MapEntry} {clock : Nat} (K : WideMaps.KeyLaw P k) (ht : P.underlying t = some (.map k e)) {z : Value} (hz : ∀ u : World, (zeroValue e).run P u = .ok z u) (hb : w.heap[b]? = some (.map es clock)) (F : WideElems.Fit P k R es clock) {key : Value} {kl : Lit} (hkey : keyOf P k key = some kl) :
    ∃ (v0 : Value) (st : Nat) (w1 : World), (Instr.mapEntry t (.map (some b)) key).run P w = .ok (.tuple #[v0, .int .i64 st]) w1 ∧ (w1.heap[b]? = w.heap[b]? ∨ ((Instr.lookup t (.map (some b)) key false).run P w = .ok z w ∧ (Instr.mapUpdate t (.map (some b)) key z).run P w = .ok () w1)) ∧
      ∀ val, ∃ w', (Instr.entryStore t (.map (some b)) (.int .i64 st) val).run P w1 = .ok () w' ∧ (Instr.mapUpdate t (.map (some b)) key val).run P w = .ok () w' := by
  have hbl : b < w.heap.size := (Array.getElem?_eq_some_iff.1 hb).1
  obtain ⟨v0, st, es1, clock1, hrun, _, hst⟩ := WideElems.entry_then_store K ht hz hb F hkey
  have hb1 : (ChangeMaps.setBlock w b (.map es1 clock1)).heap[b]? = some (.map es1 clock1) := by simp [ChangeMaps.setBlock, hbl]
  refine ⟨v0, st, _, hrun, ?_, fun val => ?_⟩
  · rcases K.find w hkey es.toList F.keys with ⟨h1, h2⟩ | ⟨j, e0, h1, h2, h3⟩
    · right
      have hr : (Instr.mapEntry t (.map (some b)) key).run P w = .ok (.tuple #[z, goInt clock]) (ChangeMaps.setBlock w b (.map (es.push ⟨key, z, clock⟩) (clock + 1))) := by
        simp [Instr.mapEntry, run_underlying ht, MapKept.run_getObj_map hb, K.check w false hkey, h1, hz, MapKept.run_setObj_map _ hb, Result.andThen, ChangeMaps.setBlock]
      rw [hrun] at hr
      have e : ChangeMaps.setBlock w b (.map es1 clock1) = ChangeMaps.setBlock w b (.map (es.push ⟨key, z, clock⟩) (clock + 1)) := by
        have := Result.ok.inj hr
        exact this.2
      rw [e]
      refine ⟨?_, ?_⟩
      · simp [Instr.lookup, run_underlying ht, MapKept.run_getObj_map hb, K.check w _ hkey, h1, hz, Result.andThen]
      · simp [Instr.mapUpdate, run_underlying ht, MapKept.run_getObj_map hb, K.check w false hkey, h1, MapKept.run_setObj_map _ hb, Result.andThen, ChangeMaps.setBlock]
    · left
      have hj : es[j]? = some e0 := by simpa using h2
      have hsame : es.modify j (fun e => { e with key := key }) = es := by
        apply Array.ext'
        rw [Array.toList_modify, ChangeMaps.modify_eq_set _ _ _ _ h2]
        have : ({ e0 with key := key } : MapEntry) = e0 := by rw [← h3]
        rw [this]
        exact WideElems.set_self _ _ _ h2
      have hr : (Instr.mapEntry t (.map (some b)) key).run P w = .ok (.tuple #[e0.val, goInt e0.born]) (ChangeMaps.setBlock w b (.map es clock)) := by
        simp [Instr.mapEntry, run_underlying ht, MapKept.run_getObj_map hb, K.check w false hkey, h1, hj, h3, K.stays w hkey, hsame, MapKept.run_setObj_map _ hb, Result.andThen, ChangeMaps.setBlock]
      rw [hrun] at hr
      have e : ChangeMaps.setBlock w b (.map es1 clock1) = ChangeMaps.setBlock w b (.map es clock) := by
        have := Result.ok.inj hr
        exact this.2
      rw [e, hb]
      simp [ChangeMaps.setBlock, hbl]
  · obtain ⟨es', clock', hr1, hr2⟩ := hst _ val hb1
    refine ⟨_, hr1, ?_⟩
    rw [hr2]
    simp [ChangeMaps.setBlock]
theorem TM.bump {w : World} {b n out} (h : TM w b n out) (hn : n < maxLen) {s : Int × Int × Int} (hw : WfS s) :
    ∃ (v0 : Value) (st : Nat) (w1 : World) (c' : Int), (Instr.mapEntry 72 (.map (some b)) (spV s)).run Tryz.prog w = .ok (.tuple #[v0, .int .i64 st]) w1 ∧ (Instr.lookup 72 (.map (some b)) (spV s) false).run Tryz.prog w1 = .ok (.int .i64 c') w1 ∧ ∀ c, (Lit.int .i64 c).wf = true → ∃ w', (Instr.entryStore 72 (.map (some b)) (.int .i64 st) (.int .i64 c)).run Tryz.prog w1 = .ok () w' ∧ TM w' b (n + 1) (addO out s) ∧ w.grownBy w' (some b) := by
  have h' := h
  obtain ⟨D, ⟨es, clock, hb, F, hs, hD⟩, _⟩ := h
  obtain ⟨kl, hkl⟩ := keySp hw
  obtain ⟨v0, st, w1, hrun, hmid, hst⟩ := entry2 klawSp Tryz.underlying72 zeroI hb F hkl
  obtain ⟨c', hl'⟩ : ∃ c', (Instr.lookup 72 (.map (some b)) (spV s) false).run Tryz.prog w1 = .ok (.int .i64 c') w1 := by
    rcases hmid with e | ⟨_, e⟩
    · obtain ⟨c', hc, _⟩ := (h'.of_block e).look hw
      exact ⟨c', hc⟩
    · obtain ⟨w', hrun', hT, _⟩ := h'.put hn hw (c := 0) (by decide)
      rw [e] at hrun'
      obtain rfl : w1 = w' := (Result.ok.inj hrun').2
      obtain ⟨c', hc, _⟩ := hT.look hw
      exact ⟨c', hc⟩
  refine ⟨v0, st, w1, c', hrun, hl', fun c hc => ?_⟩
  obtain ⟨w', hr1, hr2⟩ := hst (.int .i64 c)
  obtain ⟨w'', hrun', hT, hg⟩ := h'.put hn hw hc
  rw [hr2] at hrun'
  obtain rfl : w' = w'' := (Result.ok.inj hrun').2
  exact ⟨w', hr1, hT, hg⟩
/-- Nought is written where nothing was. -/
theorem CM.nought {w w' : World} {b n seen} (h : CM w b n seen) (hn : n < 100000) {x : Dv} (hw : WfD x) (hl : (Instr.lookup 123 (.map (some b)) (dvV x) false).run Tryz.prog w = .ok (.int .i64 0) w) (hu : (Instr.mapUpdate 123 (.map (some b)) (dvV x) (.int .i64 0)).run Tryz.prog w = .ok () w') : CM w' b (n + 1) seen := by
  obtain ⟨c, hc, hc0, _⟩ := h.look hw
  rw [hl] at hc
  have hc00 : c = 0 := by
    have := (Result.ok.inj hc).1
    simp at this
    omega
  have hnot := hc0.1 hc00
  obtain ⟨D, f, hown, hD, hz, hle⟩ := h
  obtain ⟨kl, hkl⟩ := keyGo hw
  obtain ⟨w'', hrun, hown', hg⟩ := hown.update lawGo Tryz.underlying123 (by unfold maxLen; omega) hkl (plainElem_int Tryz.underlying3 (a := 0) (by decide))
  rw [hu] at hrun
  obtain rfl : w' = w'' := (Result.ok.inj hrun).2
  refine ⟨_, f, hown', fun y kl' hkl' => ?_, hz, fun y => Nat.le_succ_of_le (hle y)⟩
  by_cases he : y = x
  · subst he
    obtain rfl : kl = kl' := by rw [hkl] at hkl'; exact Option.some.inj hkl'
    rw [atKey_put_same hown.isMap (lawGo.key hkl), (hz y).2 hnot]
    rfl
  · have hne : kl' ≠ kl := by
      intro hk
      subst hk
      exact he (dvV_inj (lawGo.inj hkl' hkl))
    rw [atKey_put_other hne, hD y kl' hkl']
theorem CM.bump {w : World} {b n seen} (h : CM w b n seen) (hn : n < 100000) {x : Dv} (hw : WfD x) :
    ∃ (v0 : Value) (st : Nat) (w1 : World) (c' : Nat), (Instr.mapEntry 123 (.map (some b)) (dvV x)).run Tryz.prog w = .ok (.tuple #[v0, .int .i64 st]) w1 ∧ (Instr.lookup 123 (.map (some b)) (dvV x) false).run Tryz.prog w1 = .ok (.int .i64 c') w1 ∧ c' ≤ n ∧ ∀ c : Nat, c ≤ n → ∃ w', (Instr.entryStore 123 (.map (some b)) (.int .i64 st) (.int .i64 ((c : Int) + 1))).run Tryz.prog w1 = .ok () w' ∧ CM w' b (n + 1) (x :: seen) ∧ w.grownBy w' (some b) := by
  have h' := h
  obtain ⟨D, f, ⟨es, clock, hb, F, hs, hD⟩, _⟩ := h
  obtain ⟨kl, hkl⟩ := keyGo hw
  obtain ⟨v0, st, w1, hrun, hmid, hst⟩ := entry2 klawGo Tryz.underlying123 zeroI hb F hkl
  obtain ⟨c', hl', hc'⟩ : ∃ c' : Nat, (Instr.lookup 123 (.map (some b)) (dvV x) false).run Tryz.prog w1 = .ok (.int .i64 c') w1 ∧ c' ≤ n := by
    rcases hmid with e | ⟨hl, e⟩
    · obtain ⟨c', hc, _, hle⟩ := (h'.of_block e).look hw
      exact ⟨c', hc, hle⟩
    · have hN := h'.nought hn hw hl e
      obtain ⟨c, hc, hc0, _⟩ := h'.look hw
      rw [hl] at hc
      have hc00 : c = 0 := by
        have := (Result.ok.inj hc).1
        simp at this
        omega
      obtain ⟨c', hc', hz', _⟩ := hN.look hw
      have : c' = 0 := hz'.2 (hc0.1 hc00)
      exact ⟨c', hc', by omega⟩
  refine ⟨v0, st, w1, c', hrun, hl', hc', fun c hc => ?_⟩
  obtain ⟨w', hr1, hr2⟩ := hst (.int .i64 ((c : Int) + 1))
  obtain ⟨w'', hrun', hT, hg⟩ := h'.put hn hw hc
  rw [hr2] at hrun'
  obtain rfl : w' = w'' := (Result.ok.inj hrun').2
  exact ⟨w', hr1, hT, hg⟩

/-! ### Rows of drives -/
theorem infoGoing : (Tryz.prog.info? 78).map (fun i => (i.zero, i.size, i.bytes)) = some (some (.agg #[.int .i64 0, .int .i64 0, .int .i64 0, .int .i64 0]), 4, 32) := by kernel_rfl
def dv4 (x : Dv) : List Value := [.int .i64 x.1.1, .int .i64 x.1.2.1, .int .i64 x.1.2.2, .int .i64 x.2]
def dvCells (l : List Dv) : List Value := l.flatMap dv4
theorem dvCells_add (l : List Dv) (x : Dv) : dvCells (l ++ [x]) = dvCells l ++ dv4 x := by simp [dvCells]
theorem dvCells_len (l : List Dv) : (dvCells l).length = l.length * 4 := by
  induction l with
  | nil => rfl
  | cons x l ih =>
    have e : dvCells (x :: l) = dv4 x ++ dvCells l := rfl
    rw [e, List.length_append, ih]
    simp [dv4]
    omega
theorem dvCells_at (l : List Dv) : ∀ k (hk : k < l.length), (dvCells l)[k * 4]? = some (.int .i64 l[k].1.1) ∧ (dvCells l)[k * 4 + 1]? = some (.int .i64 l[k].1.2.1) ∧ (dvCells l)[k * 4 + 2]? = some (.int .i64 l[k].1.2.2) ∧ (dvCells l)[k * 4 + 3]? = some (.int .i64 l[k].2) := by
  induction l with
  | nil => intro k hk; simp at hk
  | cons x l ih =>
    intro k hk
    have e : dvCells (x :: l) = dv4 x ++ dvCells l := rfl
    have hl : (dv4 x).length = 4 := rfl
    rw [e]
    match k, hk with
    | 0, _ => exact ⟨rfl, rfl, rfl, rfl⟩
    | k + 1, hk =>
      obtain ⟨h0, h1, h2, h3⟩ := ih k (by simpa using hk)
      refine ⟨?_, ?_, ?_, ?_⟩ <;> rw [List.getElem?_append_right (by rw [hl]; omega), hl]
      · rw [show (k + 1) * 4 - 4 = k * 4 by omega]; exact h0
      · rw [show (k + 1) * 4 + 1 - 4 = k * 4 + 1 by omega]; exact h1
      · rw [show (k + 1) * 4 + 2 - 4 = k * 4 + 2 by omega]; exact h2
      · rw [show (k + 1) * 4 + 3 - 4 = k * 4 + 3 by omega]; exact h3
theorem dvs_form {w : World} {base : Nat} {v : Value} {l : List Dv} (h : w.ownsRow base 78 4 v l.length (dvCells l)) : ∃ z c, v = .slice z l.length c := by
  rcases id h.2 with ⟨rfl, h0⟩ | ⟨g, cap, cur, rfl, _⟩
  · exact ⟨none, 0, by rw [h0]⟩
  · exact ⟨_, cap, rfl⟩
theorem dvs_rd {w : World} {base n c : Nat} {z : Option Addr} {l : List Dv} (h : w.ownsRow base 78 4 (.slice z n c) l.length (dvCells l)) {k : Nat} (hk : k < l.length) : ∃ g, z = some ⟨g, 0, none⟩ ∧ w.cell? ⟨g, k * 4, none⟩ = some (.int .i64 l[k].1.1) ∧ w.cell? ⟨g, k * 4 + 1, none⟩ = some (.int .i64 l[k].1.2.1) ∧ w.cell? ⟨g, k * 4 + 2, none⟩ = some (.int .i64 l[k].1.2.2) ∧ w.cell? ⟨g, k * 4 + 3, none⟩ = some (.int .i64 l[k].2) := by
  rcases id h.2 with ⟨e, h0⟩ | ⟨g, cap, cur, e, _⟩
  · omega
  · obtain ⟨rfl, rfl, rfl⟩ : z = some ⟨g, 0, none⟩ ∧ n = l.length ∧ c = cap := by simpa using e
    obtain ⟨a0, a1, a2, a3⟩ := dvCells_at l k hk
    exact ⟨g, rfl, (h.cellAt _ (by omega)).trans a0, (h.cellAt _ (by omega)).trans a1, (h.cellAt _ (by omega)).trans a2, (h.cellAt _ (by omega)).trans a3⟩

/-! ### The rounds -/
def rCells (v0 v1 : Value) (m mT : Nat) (dv : Value) (num : Int) : Array Value := #[v0, v1, .map (some m), .map (some mT), dv, .int .i64 num]
structure RS (N : Nt) (w0 wr : World) (v0 v1 : Value) (m nS bR mT nT : Nat) (dv : Value) (num : Int) (out : List (Int × Int × Int)) (line : List Dv) : Prop where
  below : Below w0.heap.size w0 wr
  lo : w0.heap.size ≤ bR ∧ w0.heap.size ≤ mT
  ne : m ≠ mT
  box : wr.heap[bR]? = some (.cells (rCells v0 v1 m mT dv num) 75 (0, 0))
  seats : SE wr m nS (seatTo N.jts N.jts.length)
  tm : TM wr mT nT out
  own : wr.ownsRow w0.heap.size 78 4 dv line.length (dvCells line)
/-- Of the blocks that stood only these have turned. -/
structure Kept3 (B M : Nat) (og : Option Nat) (w w' : World) : Prop where
  size : w.heap.size ≤ w'.heap.size
  block : ∀ k, k < w.heap.size → k ≠ B → k ≠ M → some k ≠ og → w'.heap[k]? = w.heap[k]?
theorem Kept3.refl (B M : Nat) (og : Option Nat) (w : World) : Kept3 B M og w w := ⟨Nat.le_refl _, fun _ _ _ _ _ => rfl⟩
theorem Kept3.of_below {B M : Nat} {og : Option Nat} {w w' : World} (h : Below w.heap.size w w') : Kept3 B M og w w' := ⟨h.size, fun k hk _ _ _ => h.block k hk⟩
theorem Kept3.trans {B M : Nat} {og og' : Option Nat} {a b c : World} (h : Kept3 B M og a b) (k : Kept3 B M og' b c) (hn : NewOwn a og og') : Kept3 B M og a c := by
  refine ⟨Nat.le_trans h.size k.size, fun j hj hB hM hg => ?_⟩
  rw [k.block j (Nat.lt_of_lt_of_le hj h.size) hB hM ?_]
  · exact h.block j hj hB hM hg
  · rcases hn with rfl | ⟨g, rfl, hl⟩
    · exact hg
    · intro e
      have : j = g := by simpa using e
      omega
theorem Kept3.cell {B M : Nat} {og : Option Nat} {w w' : World} (h : Kept3 B M og w w') {b o : Nat} {v : Value} (hB : b ≠ B) (hM : b ≠ M) (hg : some b ≠ og) (hc : w.cell? ⟨b, o, none⟩ = some v) : w'.cell? ⟨b, o, none⟩ = some v := by
  rw [World.cell?_of_block (a := ⟨b, o, none⟩) (h.block b (cell_lt hc) hB hM hg)]; exact hc
section
variable {N : Nt} {w0 wr wr' : World} {v0 v1 : Value} {m nS bR mT nT : Nat} {dv : Value} {num : Int} {out : List (Int × Int × Int)} {line : List Dv}
theorem RS.bl (h : RS N w0 wr v0 v1 m nS bR mT nT dv num out line) : bR < wr.heap.size := by
  rcases Nat.lt_or_ge bR wr.heap.size with h' | h'
  · exact h'
  · have := h.box; rw [Array.getElem?_eq_none h'] at this; cases this
theorem RS.neM (h : RS N w0 wr v0 v1 m nS bR mT nT dv num out line) : bR ≠ mT := by
  intro e
  obtain ⟨D, ⟨es, clock, hb, _⟩, _⟩ := h.tm
  have hb' := h.box
  rw [e, hb] at hb'
  cases hb'
theorem RS.neS (h : RS N w0 wr v0 v1 m nS bR mT nT dv num out line) : bR ≠ m := by
  intro e
  obtain ⟨D, ⟨es, clock, hb, _⟩, _⟩ := h.seats
  have hb' := h.box
  rw [e, hb] at hb'
  cases hb'
theorem owns_cells {w : World} {base g : Nat} {e : TypeId} {size : Nat} {v : Value} {n : Nat} {xs : List Value} (h : w.ownsRow base e size v n xs) (hv : v.ownBlock = some g) : ∃ cur, w.heap[g]? = some (.cells cur e (0, 0)) := by
  rcases h.2 with ⟨h', _⟩ | ⟨g', cap, cur', hv', _, hg, _⟩
  · rw [h'] at hv; cases hv
  · rw [hv'] at hv
    have : g' = g := by simpa [Value.ownBlock] using hv
    subst this
    exact ⟨_, hg⟩
theorem RS.ownB (h : RS N w0 wr v0 v1 m nS bR mT nT dv num out line) : dv.ownBlock ≠ some bR := by
  intro e
  obtain ⟨cur, hc⟩ := owns_cells h.own e
  rw [h.box] at hc
  have := Option.some.inj hc
  simp at this
theorem RS.ownM (h : RS N w0 wr v0 v1 m nS bR mT nT dv num out line) : dv.ownBlock ≠ some mT := by
  intro e
  obtain ⟨cur, hc⟩ := owns_cells h.own e
  obtain ⟨D, ⟨es, clock, hb, _⟩, _⟩ := h.tm
  rw [hb] at hc
  cases hc
theorem RS.ownS (h : RS N w0 wr v0 v1 m nS bR mT nT dv num out line) : dv.ownBlock ≠ some m := by
  intro e
  obtain ⟨cur, hc⟩ := owns_cells h.own e
  obtain ⟨D, ⟨es, clock, hb, _⟩, _⟩ := h.seats
  rw [hb] at hc
  cases hc
theorem RS.cells (h : RS N w0 wr v0 v1 m nS bR mT nT dv num out line) : wr.cell? ⟨bR, 0, none⟩ = some v0 ∧ wr.cell? ⟨bR, 1, none⟩ = some v1 ∧ wr.cell? ⟨bR, 2, none⟩ = some (.map (some m)) ∧ wr.cell? ⟨bR, 3, none⟩ = some (.map (some mT)) ∧ wr.cell? ⟨bR, 4, none⟩ = some dv ∧ wr.cell? ⟨bR, 5, none⟩ = some (.int .i64 num) := by
  simp [World.cell?, h.box, rCells]
theorem RS.free (h : RS N w0 wr v0 v1 m nS bR mT nT dv num out line) (o : Nat) : wr.frozen? ⟨bR, o, none⟩ = false := by
  simp [World.frozen?, h.box]
theorem RS.later (h : RS N w0 wr v0 v1 m nS bR mT nT dv num out line) (hb : Below wr.heap.size wr wr') : RS N w0 wr' v0 v1 m nS bR mT nT dv num out line :=
  ⟨h.below.trans (hb.mono h.below.size), h.lo, h.ne, (hb.block bR h.bl).trans h.box, h.seats.of_block (hb.block m h.seats.lt), h.tm.of_block (hb.block mT h.tm.lt), owns_later' h.own hb⟩
theorem RS.told (h : RS N w0 wr v0 v1 m nS bR mT nT dv num out line) {out' nT'} (hg : wr.grownBy wr' (some mT)) (ht : TM wr' mT nT' out') : RS N w0 wr' v0 v1 m nS bR mT nT' dv num out' line := by
  refine ⟨h.below.grown hg h.below.size (fun k e => ?_), h.lo, h.ne, (hg.block bR h.bl (fun e => h.neM (Option.some.inj e))).trans h.box, h.seats.of_block (hg.block m h.seats.lt (fun e => h.ne (Option.some.inj e))), ht, h.own.kept hg (.inr h.ownM)⟩
  have := Option.some.inj e
  have := h.lo.2
  omega
theorem RS.told_kept (_h : RS N w0 wr v0 v1 m nS bR mT nT dv num out line) (hg : wr.grownBy wr' (some mT)) (og : Option Nat) : Kept3 bR mT og wr wr' :=
  ⟨hg.size, fun k hk _ hM _ => hg.block k hk (fun e => hM (Option.some.inj e))⟩
theorem heap_setBox {w : World} {B o : Nat} {cs : Array Value} {T : TypeId} {fz} (h : w.heap[B]? = some (.cells cs T fz)) (u : Value) : (w.setCell ⟨B, o, none⟩ u).heap[B]? = some (.cells (cs.setIfInBounds o u) T fz) := by
  show (w.heap.modify B _)[B]? = _
  rw [Array.getElem?_modify, if_pos rfl, h]
  rfl
theorem owns_setBox {w : World} {base B o : Nat} {e : TypeId} {size : Nat} {v : Value} {n : Nat} {xs : List Value} (h : w.ownsRow base e size v n xs) (hne : v.ownBlock ≠ some B) (u : Value) : (w.setCell ⟨B, o, none⟩ u).ownsRow base e size v n xs :=
  owns_off h (Mid.set1 _) hne
theorem below_setBox {B0 B o : Nat} {a w : World} (h : Below B0 a w) (hB : B0 ≤ B) (u : Value) : Below B0 a (w.setCell ⟨B, o, none⟩ u) := h.setCell hB u
/-- Something is written elsewhere. -/
theorem RS.off (h : RS N w0 wr v0 v1 m nS bR mT nT dv num out line) {bX o : Nat} (hx : w0.heap.size ≤ bX) (h1 : bR ≠ bX) (h2 : mT ≠ bX) (h3 : m ≠ bX) (h4 : dv.ownBlock ≠ some bX) (u : Value) : RS N w0 (wr.setCell ⟨bX, o, none⟩ u) v0 v1 m nS bR mT nT dv num out line :=
  ⟨below_setBox h.below hx _, h.lo, h.ne, (Below.heap_setCell _ _ _ bR h1).trans h.box, h.seats.of_block (Below.heap_setCell _ _ _ m h3), h.tm.of_block (Below.heap_setCell _ _ _ mT h2), owns_setBox h.own h4 _⟩
/-- The drives are laid anew. -/
theorem RS.setDrives (h : RS N w0 wr v0 v1 m nS bR mT nT dv num out line) {dv' : Value} {line' : List Dv} (ho : wr.ownsRow w0.heap.size 78 4 dv' line'.length (dvCells line')) (hb : dv'.ownBlock ≠ some bR) : RS N w0 (wr.setCell ⟨bR, 4, none⟩ dv') v0 v1 m nS bR mT nT dv' num out line' :=
  ⟨below_setBox h.below h.lo.1 _, h.lo, h.ne, (heap_setBox h.box _).trans rfl, h.seats.of_block (Below.heap_setCell _ _ _ m h.neS.symm), h.tm.of_block (Below.heap_setCell _ _ _ mT h.neM.symm), owns_setBox ho hb _⟩
theorem RS.setNum (h : RS N w0 wr v0 v1 m nS bR mT nT dv num out line) (num' : Int) : RS N w0 (wr.setCell ⟨bR, 5, none⟩ (.int .i64 num')) v0 v1 m nS bR mT nT dv num' out line :=
  ⟨below_setBox h.below h.lo.1 _, h.lo, h.ne, (heap_setBox h.box _).trans rfl, h.seats.of_block (Below.heap_setCell _ _ _ m h.neS.symm), h.tm.of_block (Below.heap_setCell _ _ _ mT h.neM.symm), owns_setBox h.own h.ownB _⟩
/-- A drive is laid behind the others. -/
theorem RS.pushed {w3 w7 : World} (h : RS N w0 wr v0 v1 m nS bR mT nT dv num out line) (hb : Below wr.heap.size wr w3) (hg : w3.grownBy w7 dv.ownBlock) {g cp : Nat} {x : Dv}
    (hown : w7.ownsRow w0.heap.size 78 4 (.slice (some ⟨g, 0, none⟩) (line.length + 1) cp) (line.length + 1) (dvCells line ++ dv4 x)) (hnew : dv.ownBlock = some g ∨ g = w3.heap.size) :
    RS N w0 (w7.setCell ⟨bR, 4, none⟩ (.slice (some ⟨g, 0, none⟩) (line.length + 1) cp)) v0 v1 m nS bR mT nT (.slice (some ⟨g, 0, none⟩) (line.length + 1) cp) num out (line ++ [x]) ∧ Kept3 bR mT dv.ownBlock wr (w7.setCell ⟨bR, 4, none⟩ (.slice (some ⟨g, 0, none⟩) (line.length + 1) cp)) ∧ NewOwn wr dv.ownBlock (some g) := by
  have h3 := h.later hb
  have hlo := h.lo
  have hgb : g ≠ bR := by
    rcases hnew with e | e
    · intro e'; subst e'; exact h.ownB e
    · have := h3.bl; omega
  have h7 : RS N w0 w7 v0 v1 m nS bR mT nT (.slice (some ⟨g, 0, none⟩) (line.length + 1) cp) num out (line ++ [x]) → True := fun _ => trivial
  have hbel : Below w0.heap.size w0 w7 := h3.below.grown hg h3.below.size (fun k e => (h3.own.lt k e).1)
  have eB : w7.heap[bR]? = w3.heap[bR]? := hg.block bR h3.bl (fun e => h.ownB e.symm)
  have eS : w7.heap[m]? = w3.heap[m]? := hg.block m h3.seats.lt (fun e => h.ownS e.symm)
  have eM : w7.heap[mT]? = w3.heap[mT]? := hg.block mT h3.tm.lt (fun e => h.ownM e.symm)
  have hnb : (Value.slice (some ⟨g, 0, none⟩) (line.length + 1) cp).ownBlock ≠ some bR := fun e => hgb (by simpa [Value.ownBlock] using e)
  refine ⟨⟨below_setBox hbel h.lo.1 _, h.lo, h.ne, (heap_setBox (eB.trans h3.box) _).trans rfl, (h3.seats.of_block eS).of_block (Below.heap_setCell _ _ _ m h.neS.symm), (h3.tm.of_block eM).of_block (Below.heap_setCell _ _ _ mT h.neM.symm), ?_⟩, ⟨?_, fun k hk hB hM ho => ?_⟩, ?_⟩
  · rw [dvCells_add, List.length_append]
    exact owns_setBox hown hnb _
  · rw [World.size_setCell]
    exact Nat.le_trans hb.size hg.size
  · rw [Below.heap_setCell _ _ _ k hB, hg.block k (Nat.lt_of_lt_of_le hk hb.size) ho]
    exact hb.block k hk
  · rcases hnew with e | e
    · exact .inl e.symm
    · exact .inr ⟨g, rfl, by rw [e]; exact hb.size⟩
end
/-- What a drive that comes does. -/
def comeR (N : Nt) (st : List (Int × Int × Int) × List Dv) (x : Dv) : List (Int × Int × Int) × List Dv := if endsR N x then (addO st.1 (toldR x), st.2) else (st.1, st.2 ++ [x])
end Go.Proofs.YtijdigdcmjdooaaGreat

/- (*rounds).come, (*rounds).standing. Own work. -/
namespace Go.Proofs.YtijdigdcmjdooaaGreat
open Go.RowKit Go.Maps Go.Joins Go.Sort
set_option maxHeartbeats 8000000
set_option maxRecDepth 100000

theorem standing_any {N : Nt} {w0 : World} {v0 v1 : Value} {m nS bR mT nT : Nat} {dv : Value} {num : Int} {out : List (Int × Int × Int)} {line : List Dv} (w : World) (h : RS N w0 w v0 v1 m nS bR mT nT dv num out line) :
    Calls Tryz.prog 29 #[.pointer (some ⟨bR, 0, none⟩)] w fun e w' => e = .returned (.int .i64 (standP num out.length line.length)) ∧ w' = w := by
  obtain ⟨c0, c1, c2, c3, c4, c5⟩ := h.cells
  obtain ⟨z, c, rfl⟩ := dvs_form h.own
  have hlen := h.tm.len 3
  have hbl := cell_lt c0
  have HS := hide h
  clear h
  by_cases h1 : 200 < out.length
  · have q1 : decide ((out.length : Int) > 200) = true := decide_eq_true (by omega)
    have HR := hide (show standP num out.length line.length = 2 by simp [standP, h1])
    clear h1
    go_enter Tryz.func29, Tryz.ntmps29
    go_wp2_with fail
    go_ret
    exact ⟨ret_i HR.out.symm, rfl⟩
  · have q1 : decide ((out.length : Int) > 200) = false := decide_eq_false (by omega)
    by_cases h2 : 1000 < line.length
    · have q2 : decide ((line.length : Int) > 1000) = true := decide_eq_true (by omega)
      have HR := hide (show standP num out.length line.length = 2 by simp [standP, h2])
      clear h1 h2
      go_enter Tryz.func29, Tryz.ntmps29
      go_wp2_with fail
      go_ret
      exact ⟨ret_i HR.out.symm, rfl⟩
    · have q2 : decide ((line.length : Int) > 1000) = false := decide_eq_false (by omega)
      by_cases h3 : 1000 < num
      · have q3 : decide (num > 1000) = true := decide_eq_true (by omega)
        have HR := hide (show standP num out.length line.length = 2 by simp [standP, h3])
        clear h1 h2 h3
        go_enter Tryz.func29, Tryz.ntmps29
        go_wp2_with fail
        go_ret
        exact ⟨ret_i HR.out.symm, rfl⟩
      · have q3 : decide (num > 1000) = false := decide_eq_false (by omega)
        by_cases h4 : line.length = 0
        · have q4 : ((line.length : Int) == 0) = true := by rw [beq_iff_eq]; omega
          have HR := hide (show standP num out.length line.length = 1 by simp [standP, h1, h3, h4])
          clear h1 h2 h3 h4
          go_enter Tryz.func29, Tryz.ntmps29
          go_wp2_with fail
          go_ret
          exact ⟨ret_i HR.out.symm, rfl⟩
        · have q4 : ((line.length : Int) == 0) = false := by rw [beq_eq_false_iff_ne]; omega
          have HR := hide (show standP num out.length line.length = 0 by simp [standP, h1, h2, h3, h4])
          clear h1 h2 h3 h4
          go_enter Tryz.func29, Tryz.ntmps29
          go_wp2_with fail
          go_ret
          exact ⟨ret_i HR.out.symm, rfl⟩

/-- The drive's box and the layout. -/
abbrev CB (w1 wx : World) (bX bR m : Nat) (v0 v1 : Value) (q at' wy l : Int) : Prop :=
  (wx.cell? ⟨bX, 0, none⟩ = some (.int .i64 q) ∧ wx.cell? ⟨bX, 1, none⟩ = some (.int .i64 at') ∧ wx.cell? ⟨bX, 2, none⟩ = some (.int .i64 wy) ∧ wx.cell? ⟨bX, 3, none⟩ = some (.int .i64 l) ∧ wx.cell? ⟨bR, 0, none⟩ = some v0 ∧ wx.cell? ⟨bR, 1, none⟩ = some v1 ∧ wx.cell? ⟨bR, 2, none⟩ = some (.map (some m))) ∧ Hid (Below w1.heap.size w1 wx)
theorem keepCB {w1 w2 w3 : World} {bX bR m : Nat} {v0 v1 : Value} {q at' wy l : Int} (hb : Below w2.heap.size w2 w3) (h : CB w1 w2 bX bR m v0 v1 q at' wy l) : CB w1 w3 bX bR m v0 v1 q at' wy l :=
  ⟨⟨cell_later' hb h.1.1, cell_later' hb h.1.2.1, cell_later' hb h.1.2.2.1, cell_later' hb h.1.2.2.2.1, cell_later' hb h.1.2.2.2.2.1, cell_later' hb h.1.2.2.2.2.2.1, cell_later' hb h.1.2.2.2.2.2.2⟩, h.2.out.trans (hb.mono h.2.out.size)⟩
theorem heldCB {w1 w2 : World} {bX bR m : Nat} {v0 v1 : Value} {q at' wy l : Int} (h : CB w1 w2 bX bR m v0 v1 q at' wy l) : Below w1.heap.size w1 w2 := h.2.out
theorem wf_small9 {x : Int} (h : -1000000000 ≤ x) (h' : x ≤ 1000000000) : (Lit.int .i64 x).wf = true := by
  simp only [Lit.wf, IntKind.min, IntKind.max, IntKind.bits, IntKind.signed, Bool.and_eq_true, decide_eq_true_eq]
  simp
  omega
theorem wrap_wf9 (x : Int) : (Lit.int .i64 (IntKind.i64.wrap x)).wf = true := by
  rw [IntKind.wrap_i64]
  simp only [Lit.wf, IntKind.min, IntKind.max, IntKind.bits, IntKind.signed, Bool.and_eq_true, decide_eq_true_eq]
  simp
  omega
theorem wfS_of {N : Nt} (hr : netOk N = (0, 0)) {s : Int × Int × Int} (h : spotS N s = true) : WfS s := by
  have hs := spot_facts h
  have hl := lenAt_pos hr s.1 hs.1 hs.2.1
  have hp : (N.pcs.length : Int) ≤ 100 := by
    have a3 := (right_facts hr).1
    simp only [sizeBad, Bool.or_eq_false_iff, decide_eq_false_iff_not] at a3
    omega
  exact ⟨wf_small9 (by omega) (by omega), wf_small9 (by omega) (by omega), wf_small9 (by omega) (by omega)⟩
theorem come_any {N : Nt} {w0 : World} (a a' : Option Addr) (cap cap' : Nat) {m nS bR mT nT : Nat} {dv : Value} {num : Int} {out : List (Int × Int × Int)} {line : List Dv} {F : Int} (x : Dv) (w : World) (hr : netOk N = (0, 0)) (hF : F ≤ 1000000) (hx : DvOk N F x) (hP : PcsAt w0 a N.pcs)
    (h : RS N w0 w (.slice a N.pcs.length cap) (.slice a' N.jts.length cap') m nS bR mT nT dv num out line) (hnT : nT < 1000000000) (hll : line.length ≤ 100000) :
    Calls Tryz.prog 28 #[.pointer (some ⟨bR, 0, none⟩), .agg #[.int .i64 x.1.1, .int .i64 x.1.2.1, .int .i64 x.1.2.2, .int .i64 x.2]] w fun e w' => e = .returned (.tuple #[]) ∧ ∃ dv' nT', RS N w0 w' (.slice a N.pcs.length cap) (.slice a' N.jts.length cap') m nS bR mT nT' dv' num (comeR N (out, line) x).1 (comeR N (out, line) x).2 ∧ Kept3 bR mT dv.ownBlock w w' ∧ NewOwn w dv.ownBlock dv'.ownBlock ∧ nT' ≤ nT + 1 := by
  obtain ⟨i0, hi, hz0, hz1, hz2⟩ := info_parts infoGoing
  have HI := hide hi
  have HZ0 := hide hz0
  have HZ1 := hide hz1
  have HZ2 := hide hz2
  have HTO := hide (fun he => wfS_of hr (told_ok hx he))
  have hsf := spot_facts hx.spot
  have hlf := hx.left
  obtain ⟨⟨q, at', wy⟩, l⟩ := x
  dsimp only at hsf hlf ⊢
  have HN := hide h
  have HP := hide hP
  obtain ⟨k, rfl⟩ := Int.eq_ofNat_of_zero_le hsf.1
  have hkl : k < N.pcs.length := by omega
  have hlen := lenAt_pos hr k (by omega) (by omega)
  have HLN := hide (lenAt_nat N k hkl)
  rw [HLN.out] at hsf hlen
  have hsw := hsf.2.2.1
  have hrm : 0 ≤ roomP N k at' wy ∧ roomP N k at' wy ≤ 10000000 := by
    unfold roomP
    rw [HLN.out]
    split <;> omega
  have hA := (Below.refl w.heap.size w).alloc (Nat.le_refl _) (.cells #[.int .i64 k, .int .i64 at', .int .i64 wy, .int .i64 l] 78)
  have HN1 := hide (h.later hA)
  have HK1 := hide (Kept3.of_below (B := bR) (M := mT) (og := dv.ownBlock) hA)
  have x0 := new_cell w #[.int .i64 k, .int .i64 at', .int .i64 wy, .int .i64 l] 78 0 _ rfl
  have x1 := new_cell w #[.int .i64 k, .int .i64 at', .int .i64 wy, .int .i64 l] 78 1 _ rfl
  have x2 := new_cell w #[.int .i64 k, .int .i64 at', .int .i64 wy, .int .i64 l] 78 2 _ rfl
  have x3 := new_cell w #[.int .i64 k, .int .i64 at', .int .i64 wy, .int .i64 l] 78 3 _ rfl
  have hbX : w.heap.size ≠ bR := by have := h.bl; omega
  have hlw := h.below.size
  have hbM : mT ≠ w.heap.size := by have := h.tm.lt; omega
  have hbS : m ≠ w.heap.size := by have := h.seats.lt; omega
  have hbD : dv.ownBlock ≠ some w.heap.size := fun e => by have := (h.own.lt _ e).2; omega
  clear hi hz0 hz1 hz2 hx hP h hA
  go_enter Tryz.func28, Tryz.ntmps28
  go_upto_region 1 with fail
  have hws : w.heap.size < (w.alloc (.cells #[.int .i64 k, .int .i64 at', .int .i64 wy, .int .i64 l] 78)).heap.size := by simp
  have hxf : ∀ o, (w.alloc (.cells #[.int .i64 k, .int .i64 at', .int .i64 wy, .int .i64 l] 78)).frozen? ⟨w.heap.size, o, none⟩ = false := fun o => by simp [go_sem]
  have HXF := hide hxf
  clear hxf
  generalize w.alloc (.cells #[.int .i64 k, .int .i64 at', .int .i64 wy, .int .i64 l] 78) = w1 at *
  generalize hbXe : w.heap.size = bX at *
  obtain ⟨c0, c1, c2, c3, c4, c5⟩ := HN1.out.cells
  have HCB : Hid (CB w1 w1 bX bR m (.slice a N.pcs.length cap) (.slice a' N.jts.length cap') k at' wy l) := ⟨⟨x0, x1, x2, x3, c0, c1, c2⟩, Below.refl _ _⟩
  have h1 : Below w1.heap.size w1 w1.drew := (Below.refl _ _).drew
  clear x0 x1 x2 x3 c0 c1 c2 c3 c4 c5
  go_cut [13] (fun s13 wx => s13 = .bool (decide (l > roomP N k at' wy)) ∧ Hid (Below w1.heap.size w1 wx))
  case first =>
    go_region_held3 (fun wx => CB w1 wx bX bR m (.slice a N.pcs.length cap) (.slice a' N.jts.length cap') k at' wy l)
      (first
        | (exact keepCB h1 HCB.out)
        | (with_reducible exact HGT.out)
        | (exact keepCB (by assumption) (by assumption)))
      (first
        | (go_at_call 58; refine (layAhead_any a a' N cap cap' m k at' wy _ hkl hsw (by omega) (by omega) (HP.out.later (HN1.out.below.trans ((heldCB (by assumption)).mono HN1.out.below.size)))).mono ?_; rintro e wT ⟨rfl, hbT⟩; have HGT : Hid (CB w1 wT bX bR m (.slice a N.pcs.length cap) (.slice a' N.jts.length cap') k at' wy l) := keepCB hbT (by assumption); clear hbT))
    all_goals
      rename_i hHS
      have HHS := hide hHS.2.out
      clear hHS
      go_wp2_with fail
      go_meet
      case rel => exact ⟨rfl, HHS⟩
  case rest =>
    obtain ⟨rfl, HB2⟩ := hcut
    rename World => w2
    have HN2 := hide (HN1.out.later HB2.out)
    have HK2 := hide (HK1.out.trans (Kept3.of_below (B := bR) (M := mT) (og := dv.ownBlock) HB2.out) (.inl rfl))
    have x0 := cell_later' HB2.out HCB.out.1.1
    have x1 := cell_later' HB2.out HCB.out.1.2.1
    have x2 := cell_later' HB2.out HCB.out.1.2.2.1
    have x3 := cell_later' HB2.out HCB.out.1.2.2.2.1
    have hxf : ∀ o, w2.frozen? ⟨bX, o, none⟩ = false := fun o => by rw [HB2.out.frozen (p := ⟨bX, o, none⟩) hws]; exact HXF.out o
    have f1 := hxf 1
    have HXF2 := hide hxf
    have hlw2 := HN2.out.below.size
    have hw2 := HB2.out.size
    obtain ⟨c0, c1, c2, c3, c4, c5⟩ := HN2.out.cells
    have hbR := cell_lt c0
    clear hxf HXF HCB HN1 HK1 HB2 h1 HN
    by_cases he : l ≤ roomP N k at' wy
    · have q1 : decide (l > roomP N k at' wy) = false := decide_eq_false (by omega)
      have HEN := hide (show endsR N ((↑k, at', wy), l) = true from decide_eq_true he)
      have hwy2 : wy * l = l * wy := Int.mul_comm _ _
      have HWF := hide (HTO.out HEN.out)
      have hwr1 : IntKind.i64.wrap (wy * l) = l * wy := by rw [IntKind.wrap_i64, hwy2]; rcases hsw with rfl | rfl <;> omega
      have hwr2 : IntKind.i64.wrap (at' + l * wy) = at' + l * wy := by rw [IntKind.wrap_i64]; rcases hsw with rfl | rfl <;> omega
      have HN3 := hide (HN2.out.off (bX := bX) (o := 1) hlw (fun e => hbX e.symm) hbM hbS hbD (.int .i64 (at' + l * wy)))
      have HK3 := hide (show Kept3 bR mT dv.ownBlock w (w2.setCell ⟨bX, 1, none⟩ (.int .i64 (at' + l * wy))) from ⟨by rw [World.size_setCell]; exact HK2.out.size, fun k hk hB hM ho => by rw [Below.heap_setCell _ _ _ k (by show k ≠ bX; omega)]; exact HK2.out.block k hk hB hM ho⟩)
      have y0 : (w2.setCell ⟨bX, 1, none⟩ (.int .i64 (at' + l * wy))).cell? ⟨bX, 0, none⟩ = some (.int .i64 k) := by simp [go_sem, x0]
      have y1 : (w2.setCell ⟨bX, 1, none⟩ (.int .i64 (at' + l * wy))).cell? ⟨bX, 1, none⟩ = some (.int .i64 (at' + l * wy)) := by simp [go_sem, x1]
      have y2 : (w2.setCell ⟨bX, 1, none⟩ (.int .i64 (at' + l * wy))).cell? ⟨bX, 2, none⟩ = some (.int .i64 wy) := by simp [go_sem, x2]
      rw [q1]
      clear he hwy2
      go_upto_region 4 with fail
      clear x0 x1 x2 x3 c0 c1 c2 c3 c4 c5 f1 HXF2 HN2 HK2
      generalize w2.setCell ⟨bX, 1, none⟩ (.int .i64 (at' + l * wy)) = w3 at *
      obtain ⟨_, _, _, c3, _, _⟩ := HN3.out.cells
      have hbl3 := cell_lt c3
      have hyl3 := cell_lt y0
      have hTd := (HN3.out.later ((Below.refl w3.heap.size w3).drew)).tm
      obtain ⟨c, hl, hc⟩ := hTd.look HWF.out
      obtain ⟨v0', st, wE, c', hE, hl', hst⟩ := hTd.bump (by unfold maxLen; omega) HWF.out
      obtain ⟨wA, hA, hTA, hgA⟩ := hst (IntKind.i64.wrap (c + 1)) (wrap_wf9 _)
      obtain ⟨wB, hB, hTB, hgB⟩ := hst (IntKind.i64.wrap (c' + 1)) (wrap_wf9 _)
      have HFA := hide ((HN3.out.later ((Below.refl w3.heap.size w3).drew)).told hgA hTA)
      have HFB := hide ((HN3.out.later ((Below.refl w3.heap.size w3).drew)).told hgB hTB)
      have HKA := hide (HK3.out.trans ((Kept3.of_below (B := bR) (M := mT) (og := dv.ownBlock) ((Below.refl w3.heap.size w3).drew)).trans ((HN3.out.later ((Below.refl w3.heap.size w3).drew)).told_kept hgA dv.ownBlock) (.inl rfl)) (.inl rfl))
      have HKB := hide (HK3.out.trans ((Kept3.of_below (B := bR) (M := mT) (og := dv.ownBlock) ((Below.refl w3.heap.size w3).drew)).trans ((HN3.out.later ((Below.refl w3.heap.size w3).drew)).told_kept hgB dv.ownBlock) (.inl rfl)) (.inl rfl))
      have HCR := hide (show comeR N (out, line) (((k : Int), at', wy), l) = (addO out (toldR (((k : Int), at', wy), l)), line) from if_pos HEN.out)
      simp only [spV, toldR] at hl hE hl'
      clear hTd hst hTA hgA hTB hgB hc HTO
      go_region_law (fail)
      all_goals
        go_wp2_with fail
        go_end0
        rw [HCR.out]
        first
          | exact ⟨rfl, dv, nT + 1, HFA.out, HKA.out, .inl rfl, Nat.le_refl _⟩
          | exact ⟨rfl, dv, nT + 1, HFB.out, HKB.out, .inl rfl, Nat.le_refl _⟩
    · have q1 : decide (l > roomP N k at' wy) = true := decide_eq_true (by omega)
      have HEN := hide (show endsR N ((↑k, at', wy), l) = false from decide_eq_false he)
      have hml : line.length + 1 ≤ maxLen := by unfold maxLen; omega
      have HCR := hide (show comeR N (out, line) (((k : Int), at', wy), l) = (out, line ++ [(((k : Int), at', wy), l)]) from if_neg (by rw [HEN.out]; simp))
      have HF4 := hide (HN2.out.free 4)
      rw [q1]
      clear he
      go_upto_region 2 with fail
      go_region_law (first
          | (refine step_append_lies _ (by rfl) _ _ _ (by rfl) w0.heap.size 78 i0 _ 4 32 Tryz.underlying73 HI.out HZ0.out HZ1.out HZ2.out rfl (by omega) dv line.length (dvCells line) (by rfl) (HN2.out.own.alloc _) ⟨_, 0, none⟩ 1 1 [.int .i64 k, .int .i64 at', .int .i64 wy, .int .i64 l] (by rfl) (by rfl) (World.news_of_block (heap_alloc_new _ _)) (by simp [Value.oneCell']) (by omega) hml (by omega) (by simp; omega) _ rfl ?_; intro g2 cp2 w7 hown2 hgrow2 hnew2 _; have HPU := hide (HN2.out.pushed (x := (((k : Int), at', wy), l)) (((Below.refl w2.heap.size w2).alloc (Nat.le_refl _) _).drew) hgrow2 hown2 hnew2); have hne7 : some bR ≠ dv.ownBlock := fun e => HN2.out.ownB e.symm; have m4 := hgrow2.cell (cell_later' (((Below.refl w2.heap.size w2).alloc (Nat.le_refl _) _).drew) c4) hne7; have mf : w7.frozen? ⟨bR, 4, none⟩ = false := (World.frozen?_of_block (a := ⟨bR, 4, none⟩) ((hgrow2.block bR (Nat.lt_of_lt_of_le hbR (((Below.refl w2.heap.size w2).alloc (Nat.le_refl _) _).drew).size) hne7).trans ((((Below.refl w2.heap.size w2).alloc (Nat.le_refl _) _).drew).block bR hbR))).trans HF4.out))
      all_goals
        go_wp2_with fail
        (try simp only [Exit.inBlock, Exit.then])
        refine bodyPost_ret (results_none rfl _ _ _) rfl ?_
        rw [HCR.out]
        exact ⟨rfl, _, nT, HPU.out.1, HK2.out.trans HPU.out.2.1 (.inl rfl), HPU.out.2.2.imp id (fun ⟨g, e, h⟩ => ⟨g, e, Nat.le_trans HK2.out.size h⟩), Nat.le_succ _⟩
end Go.Proofs.YtijdigdcmjdooaaGreat

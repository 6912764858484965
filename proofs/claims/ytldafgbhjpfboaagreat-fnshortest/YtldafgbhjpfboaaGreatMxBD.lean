/- Loops: plain, and as rows of rows in memory. Own work. -/
import Derived.Test.YtldafgbhjpfboaaGreatMxBA
import Derived.Test.YtldafgbhjpfboaaGreatMxAV
namespace Go.Proofs.YtldafgbhjpfboaaGreat
open Go.RowKit Go.Sort
set_option maxHeartbeats 8000000
set_option maxRecDepth 100000

/-- The way back to a step. -/
noncomputable def loopAt (N : Nt) (hr : netOk N = (0, 0)) (p : Nat) : Option Wy := bestO (grN N hr) (stepAt p) (lenAt N ((p / 2 : Nat) : Int)) (stepAt p)
noncomputable def loopsTo (N : Nt) (hr : netOk N = (0, 0)) : Nat → List (List (Int × Int))
  | 0 => []
  | m + 1 => loopsTo N hr m ++ (match loopAt N hr m with | none => [] | some y => [y.ss])
theorem loopsTo_none {N : Nt} {hr : netOk N = (0, 0)} {m : Nat} (h : loopAt N hr m = none) : loopsTo N hr (m + 1) = loopsTo N hr m := by
  rw [loopsTo, h, List.append_nil]
theorem loopsTo_some {N : Nt} {hr : netOk N = (0, 0)} {m : Nat} {y : Wy} (h : loopAt N hr m = some y) : loopsTo N hr (m + 1) = loopsTo N hr m ++ [y.ss] := by
  rw [loopsTo, h]
theorem loopsTo_len (N : Nt) (hr : netOk N = (0, 0)) : ∀ m, (loopsTo N hr m).length ≤ m
  | 0 => by simp [loopsTo]
  | m + 1 => by
    have ih := loopsTo_len N hr m
    cases h : loopAt N hr m with
    | none => rw [loopsTo_none h]; omega
    | some y => rw [loopsTo_some h, List.length_append]; simp; omega
/-- What is told of a loop. -/
structure LoopR (n : Nat) (ss : List (Int × Int)) : Prop where
  two : 2 ≤ ss.length
  few : ss.length ≤ 2 * n + 1
  back : ∃ s, ss.head? = some s ∧ ss.getLast? = some s
theorem loopAt_ok {N : Nt} {hr : netOk N = (0, 0)} {m : Nat} (hm : m < 2 * N.pcs.length) {y : Wy} (h : loopAt N hr m = some y) : LoopR N.pcs.length y.ss := by
  have hy := bestO_way h
  have hl := lenAt_pos hr ((m / 2 : Nat) : Int) (by omega) (by omega)
  exact ⟨hy.two, bestO_short (by omega) h, stepAt m, hy.way.head, hy.last⟩
theorem loopsTo_ok (N : Nt) (hr : netOk N = (0, 0)) : ∀ m, m ≤ 2 * N.pcs.length → ∀ ss ∈ loopsTo N hr m, LoopR N.pcs.length ss
  | 0 => fun _ ss h => by simp [loopsTo] at h
  | m + 1 => fun hm ss h => by
    cases hl : loopAt N hr m with
    | none => rw [loopsTo_none hl] at h; exact loopsTo_ok N hr m (by omega) ss h
    | some y =>
      rw [loopsTo_some hl] at h
      rcases List.mem_append.1 h with h | h
      · exact loopsTo_ok N hr m (by omega) ss h
      · rw [List.mem_singleton.1 h]; exact loopAt_ok (by omega) hl
/-! ### In memory -/
structure Lp where
  ss : List (Int × Int)
  z : Option Addr
  c : Nat
instance : Inhabited Lp := ⟨⟨[], none, 0⟩⟩
def lpCells (l : List Lp) : List Value := l.map fun i => .slice i.z i.ss.length i.c
theorem lpCells_add (l : List Lp) (i : Lp) : lpCells (l ++ [i]) = lpCells l ++ [.slice i.z i.ss.length i.c] := by simp [lpCells]
theorem infoSteps : (Tryz.prog.info? 31).map (fun i => (i.zero, i.size, i.bytes)) = some (some (.slice none 0 0), 1, 24) := by kernel_rfl
/-- While loops are laid in a row. -/
structure LpI (wb wr : World) (sv : Value) (l : List Lp) : Prop where
  below : Below wb.heap.size wb wr
  own : wr.ownsRow wb.heap.size 31 1 sv l.length (lpCells l)
  st : ∀ i ∈ l, StRow wr i.z i.ss
theorem LpI.later {wb wr wr' : World} {sv : Value} {l : List Lp} (h : LpI wb wr sv l) (hb : Below wr.heap.size wr wr') : LpI wb wr' sv l :=
  ⟨h.below.trans (hb.mono h.below.size), owns_later' h.own hb, fun i hi => (h.st i hi).later hb⟩
theorem LpI.app {wb wr w7 : World} {sv : Value} {l : List Lp} (h : LpI wb wr sv l) {x : Lp} (hx : StRow wr x.z x.ss) (hg : wr.grownBy w7 sv.ownBlock) {g cp : Nat} (hown : w7.ownsRow wb.heap.size 31 1 (.slice (some ⟨g, 0, none⟩) (l.length + 1) cp) (l.length + 1) (lpCells l ++ [.slice x.z x.ss.length x.c])) : LpI wb w7 (.slice (some ⟨g, 0, none⟩) (l.length + 1) cp) (l ++ [x]) := by
  have hst : ∀ {z ss}, StRow wr z ss → StRow w7 z ss := fun {z ss} hs => by
    cases hn : sv.ownBlock with
    | none =>
      rw [hn] at hg
      exact hs.later ⟨hg.os, hg.tape, hg.output, hg.size, fun k hk => hg.block k hk (by simp)⟩
    | some g' =>
      rw [hn] at hg
      exact hs.mid (g := g') ⟨hg.os, hg.tape, hg.output, hg.size, fun k hk hk' => hg.block k hk (fun e => by have := Option.some.inj e; omega)⟩ (owns_type h.own hn (by decide))
  refine ⟨⟨hg.os.trans h.below.os, hg.tape.trans h.below.tape, hg.output.trans h.below.output, Nat.le_trans h.below.size hg.size, fun k hk => (hg.block k (Nat.lt_of_lt_of_le hk h.below.size) (fun e => by have := (h.own.lt k e.symm).1; omega)).trans (h.below.block k hk)⟩, ?_, fun i hi => ?_⟩
  · rw [lpCells_add, List.length_append]
    exact hown
  · rcases List.mem_append.1 hi with hi | hi
    · exact hst (h.st i hi)
    · rw [List.mem_singleton.1 hi]; exact hst hx
/-- What the two functions answer. -/
def LoopsR (N : Nt) (hr : netOk N = (0, 0)) (w w' : World) (v : Value) : Prop :=
  ∃ l : List Lp, w'.ownsRow w.heap.size 31 1 v l.length (lpCells l) ∧ l.map Lp.ss = loopsTo N hr (2 * N.pcs.length) ∧ (∀ i ∈ l, StRow w' i.z i.ss) ∧ Below w.heap.size w w'
theorem loopAt_enter {N : Nt} (hr : netOk N = (0, 0)) {k s : Nat} (hs : s ≤ 1) {p1 p2 p3 : Int} (he : enterP N ((k : Int), (s : Int)) = (p1, p2, p3)) : bestO (grN N hr) (p1, p3) (roomP N p1 p2 p3) (stepAt (2 * k + s)) = loopAt N hr (2 * k + s) ∧ stepAt (2 * k + s) = (p1, p3) ∧ roomP N p1 p2 p3 = lenAt N (k : Int) := by
  have e1 : stepAt (2 * k + s) = stepOf ((k : Int), (s : Int)) := by
    unfold stepAt
    rw [show (2 * k + s) / 2 = k by omega, show (2 * k + s) % 2 = s by omega]
  have e2 : (p1, p3) = stepOf ((k : Int), (s : Int)) := by
    have h := enter_step (N := N) (e := ((k : Int), (s : Int)))
    rw [he] at h
    exact h
  have e3 : roomP N p1 p2 p3 = lenAt N (k : Int) := by
    have h : roomP N (enterP N ((k : Int), (s : Int))).1 (enterP N ((k : Int), (s : Int))).2.1 (enterP N ((k : Int), (s : Int))).2.2 = lenAt N (k : Int) := by
      unfold enterP roomP
      split <;> simp
    rw [he] at h
    exact h
  refine ⟨?_, e1.trans e2.symm, e3⟩
  unfold loopAt
  rw [e3, e2, ← e1, show ((2 * k + s) / 2 : Nat) = k by omega]
end Go.Proofs.YtldafgbhjpfboaaGreat

/- A side's way to look. Own work. -/
namespace Go.Proofs.YtldafgbhjpfboaaGreat
set_option maxHeartbeats 1000000

def wayV (s : Nat) : Int := if s = 0 then 1 else -1
theorem wayV_step (k s : Nat) (hs : s ≤ 1) : stepAt (2 * k + s) = ((k : Int), wayV s) := by
  unfold stepAt stepOf wayV
  rw [show (2 * k + s) / 2 = k by omega, show (2 * k + s) % 2 = s by omega]
  have h : s = 0 ∨ s = 1 := by omega
  rcases h with rfl | rfl <;> rfl
theorem wayV_head (k s : Nat) (hs : s ≤ 1) : headP (k : Int) (-(wayV s)) = ((k : Int), (s : Int)) := by
  have h : s = 0 ∨ s = 1 := by omega
  rcases h with rfl | rfl <;> rfl
end Go.Proofs.YtldafgbhjpfboaaGreat

/- From the reading of the arguments to how they lie in memory. Own work. -/
import Derived.Test.YtokhbnlpifmjkaaDoorSz
import Derived.DeepKeys4
import Derived.Deep.Slices
import Derived.Deep.Strs
import Derived.Lib.SmallJoins
import Derived.ChangeSame
import Derived.ProofKit
namespace Go.Proofs.YtokhbnlpifmjkaaDoor
open Go.RowKit Go.Joins Go.Deep Go.WideShapes Go.ChangeShapes
set_option maxRecDepth 100000

theorem list_of {α : Type} {P : Nat → α → Prop} (n : Nat) (h : ∀ i, i < n → ∃ x, P i x) : ∃ l : List α, l.length = n ∧ ∀ i (hi : i < l.length), P i l[i] := by
  induction n with
  | zero => exact ⟨[], rfl, fun i hi => by simp at hi⟩
  | succ n ih =>
    obtain ⟨l, hl, hp⟩ := ih (fun i hi => h i (by omega))
    obtain ⟨x, hx⟩ := h n (by omega)
    refine ⟨l ++ [x], by simp [hl], fun i hi => ?_⟩
    by_cases e : i < l.length
    · rw [List.getElem_append_left e]; exact hp i e
    · have : i = l.length := by simp at hi; omega
      subst this
      rw [List.getElem_append_right (Nat.le_refl _)]
      simp only [Nat.sub_self, List.getElem_singleton, hl]
      exact hx

theorem cellsI : Tryd.prog.cellsOf 3 = 1 := by kernel_rfl
theorem cellsStr : Tryd.prog.cellsOf 9 = 1 := by kernel_rfl
theorem cellsLE : Tryd.prog.cellsOf 109 = 2 := by kernel_rfl
theorem cellsLP : Tryd.prog.cellsOf 63 = 4 := by kernel_rfl
theorem cellsLJ : Tryd.prog.cellsOf 67 = 3 := by kernel_rfl
theorem cellsLEs : Tryd.prog.cellsOf 65 = 1 := by kernel_rfl
theorem cellsLN : Tryd.prog.cellsOf 25 = 2 := by kernel_rfl

section
variable {H : Type} {enc : TypeId × Value → H} {w : World} {spare : Nat → Bool} {held : Bool}

theorem ends_of_trod {fuel : Nat} {cs : List Value} {x : DataW H × List MemPlace} (h : DataW.trod enc Tryd.prog w 0 spare held fuel 65 cs = some x) :
    ∃ a cap es, cs = [.slice a es.length cap] ∧ EndsAt w a es ∧ es.length ≤ maxLen ∧ ∀ e ∈ es, Wf2 e := by
  rcases open_slice Tryd.underlying65 h with ⟨rfl, _⟩ | ⟨a, len, cap, m, n, D, Pl, rfl, _, hlc, hcm, hm, _, hall⟩
  · exact ⟨none, 0, [], rfl, fun k hk => by simp at hk, by simp, by simp⟩
  · have hlm : len ≤ m := by rw [hm]; split <;> omega
    have hex : ∀ i, i < len → ∃ e : Int × Int, (w.cell? ((a.add (i * 2)).add 0) = some (.int .i64 e.1) ∧ w.cell? ((a.add (i * 2)).add 1) = some (.int .i64 e.2)) ∧ Wf2 e := by
      intro i hi
      obtain ⟨cs', hc, ht⟩ := hall i (by omega)
      rw [cellsLE] at hc
      obtain ⟨y0, y1, n', _, hlen, h0, h1⟩ := trod_struct2 Tryd.underlying109 ht
      rw [cellsLE] at hlen
      obtain ⟨_, _, hcell⟩ := World.cells?_some hc
      match cs', hlen with
      | [v0, v1], _ =>
        simp [cellsI] at h0 h1
        obtain ⟨x0, e0, _, w0⟩ := DataW.trod_int Tryd.underlying3 h0
        obtain ⟨x1, e1, _, w1⟩ := DataW.trod_int Tryd.underlying3 h1
        simp at e0 e1
        subst e0; subst e1
        exact ⟨(x0, x1), ⟨hcell 0 (by omega), hcell 1 (by omega)⟩, w0, w1⟩
    obtain ⟨es, hl, hes⟩ := list_of len hex
    refine ⟨some a, cap, es, by rw [hl], ?_, by omega, ?_⟩
    · intro k hk
      obtain ⟨b, off, spot⟩ := a
      have h00 := (hes 0 (by omega)).1.1
      have hspot : spot = none := by simpa [Addr.add] using World.cell?_spot h00
      subst hspot
      have hk2 := (hes k hk).1
      simp only [add_plain] at hk2
      exact ⟨b, off, rfl, hk2.1, hk2.2⟩
    · intro e he
      obtain ⟨k, hk, rfl⟩ := List.getElem_of_mem he
      exact (hes k hk).2

theorem pcs_of_trod {fuel : Nat} {cs : List Value} {x : DataW H × List MemPlace} (h : DataW.trod enc Tryd.prog w 0 spare held fuel 22 cs = some x) :
    ∃ a cap ps, cs = [.slice a ps.length cap] ∧ PcsAt w a ps ∧ ps.length ≤ maxLen ∧ ∀ p ∈ ps, p.name.size ≤ maxLen := by
  rcases open_slice Tryd.underlying22 h with ⟨rfl, _⟩ | ⟨a, len, cap, m, n, D, Pl, rfl, _, hlc, hcm, hm, _, hall⟩
  · exact ⟨none, 0, [], rfl, fun k hk => by simp at hk, by simp, by simp⟩
  · have hlm : len ≤ m := by rw [hm]; split <;> omega
    have hex : ∀ i, i < len → ∃ p : Pc, (w.cell? ((a.add (i * 4)).add 0) = some (.string p.name) ∧ w.cell? ((a.add (i * 4)).add 1) = some (.int .i64 p.len) ∧ w.cell? ((a.add (i * 4)).add 2) = some (.int .i64 p.speed) ∧ w.cell? ((a.add (i * 4)).add 3) = some (.int .i64 p.brake)) ∧ p.name.size ≤ maxLen := by
      intro i hi
      obtain ⟨cs', hc, ht⟩ := hall i (by omega)
      rw [cellsLP] at hc
      obtain ⟨y0, y1, y2, y3, n', _, hlen, h0, h1, h2, h3⟩ := trod_struct4 Tryd.underlying63 ht
      rw [cellsLP] at hlen
      obtain ⟨_, _, hcell⟩ := World.cells?_some hc
      match cs', hlen with
      | [v0, v1, v2, v3], _ =>
        simp [cellsI, cellsStr] at h0 h1 h2 h3
        obtain ⟨s, e0, _, w0⟩ := DataW.trod_string Tryd.underlying9 h0
        obtain ⟨x1, e1, _, _⟩ := DataW.trod_int Tryd.underlying3 h1
        obtain ⟨x2, e2, _, _⟩ := DataW.trod_int Tryd.underlying3 h2
        obtain ⟨x3, e3, _, _⟩ := DataW.trod_int Tryd.underlying3 h3
        simp at e0 e1 e2 e3
        subst e0; subst e1; subst e2; subst e3
        exact ⟨⟨s, x1, x2, x3⟩, ⟨hcell 0 (by omega), hcell 1 (by omega), hcell 2 (by omega), hcell 3 (by omega)⟩, w0⟩
    obtain ⟨es, hl, hes⟩ := list_of len hex
    refine ⟨some a, cap, es, by rw [hl], ?_, by omega, ?_⟩
    · intro k hk
      obtain ⟨b, off, spot⟩ := a
      have h00 := (hes 0 (by omega)).1.1
      have hspot : spot = none := by simpa [Addr.add] using World.cell?_spot h00
      subst hspot
      have hk2 := (hes k hk).1
      simp only [add_plain] at hk2
      exact ⟨b, off, rfl, hk2.1, hk2.2.1, hk2.2.2.1, hk2.2.2.2⟩
    · intro e he
      obtain ⟨k, hk, rfl⟩ := List.getElem_of_mem he
      exact (hes k hk).2

theorem jts_of_trod {fuel : Nat} {cs : List Value} {x : DataW H × List MemPlace} (h : DataW.trod enc Tryd.prog w 0 spare held fuel 23 cs = some x) :
    ∃ a cap js, cs = [.slice a js.length cap] ∧ JtsAt w a js ∧ js.length ≤ maxLen ∧ ∀ j ∈ js, j.name.size ≤ maxLen ∧ j.ends.length ≤ maxLen := by
  rcases open_slice Tryd.underlying23 h with ⟨rfl, _⟩ | ⟨a, len, cap, m, n, D, Pl, rfl, _, hlc, hcm, hm, _, hall⟩
  · exact ⟨none, 0, [], rfl, fun k hk => by simp at hk, by simp, by simp⟩
  · have hlm : len ≤ m := by rw [hm]; split <;> omega
    have hex : ∀ i, i < len → ∃ j : Jt, (∃ ea ec, w.cell? ((a.add (i * 3)).add 0) = some (.int .i64 j.kind) ∧ w.cell? ((a.add (i * 3)).add 1) = some (.string j.name) ∧ w.cell? ((a.add (i * 3)).add 2) = some (.slice ea j.ends.length ec) ∧ EndsAt w ea j.ends) ∧ j.name.size ≤ maxLen ∧ j.ends.length ≤ maxLen := by
      intro i hi
      obtain ⟨cs', hc, ht⟩ := hall i (by omega)
      rw [cellsLJ] at hc
      obtain ⟨y0, y1, y2, n', _, hlen, h0, h1, h2⟩ := trod_struct3 Tryd.underlying67 ht
      rw [cellsLJ] at hlen
      obtain ⟨_, _, hcell⟩ := World.cells?_some hc
      match cs', hlen with
      | [v0, v1, v2], _ =>
        simp [cellsI, cellsStr, cellsLEs] at h0 h1 h2
        obtain ⟨x0, e0, _, _⟩ := DataW.trod_int Tryd.underlying3 h0
        obtain ⟨s, e1, _, w1⟩ := DataW.trod_string Tryd.underlying9 h1
        obtain ⟨ea, ec, es, e2, hE, hEl, _⟩ := ends_of_trod h2
        simp at e0 e1 e2
        subst e0; subst e1; subst e2
        exact ⟨⟨x0, s, es⟩, ⟨ea, ec, hcell 0 (by omega), hcell 1 (by omega), hcell 2 (by omega), hE⟩, w1, hEl⟩
    obtain ⟨es, hl, hes⟩ := list_of len hex
    refine ⟨some a, cap, es, by rw [hl], ?_, by omega, ?_⟩
    · intro k hk
      obtain ⟨b, off, spot⟩ := a
      obtain ⟨_, _, h00, _⟩ := (hes 0 (by omega)).1
      have hspot : spot = none := by simpa [Addr.add] using World.cell?_spot h00
      subst hspot
      obtain ⟨ea, ec, hk2⟩ := (hes k hk).1
      simp only [add_plain] at hk2
      exact ⟨b, off, ea, ec, rfl, hk2.1, hk2.2.1, hk2.2.2.1, hk2.2.2.2⟩
    · intro e he
      obtain ⟨k, hk, rfl⟩ := List.getElem_of_mem he
      exact (hes k hk).2

theorem net_of_trod {r : Reach} {b0 : Nat} {v : Value} {d : DataW H} {p : List MemPlace} (hv : Value.okWide Tryd.prog w r b0 25 v) (h : DataW.Trod enc Tryd.prog w 0 spare held 25 v d p) :
    ∃ (N : Nt) (a a' : Option Addr) (cap cap' : Nat), v = .agg #[.slice a N.pcs.length cap, .slice a' N.jts.length cap'] ∧ PcsAt w a N.pcs ∧ JtsAt w a' N.jts ∧ (N.pcs.length ≤ maxLen ∧ ∀ p ∈ N.pcs, p.name.size ≤ maxLen) ∧ (N.jts.length ≤ maxLen ∧ ∀ j ∈ N.jts, j.name.size ≤ maxLen ∧ j.ends.length ≤ maxLen) := by
  obtain ⟨v0, v1, y0, y1, n, rfl, _, _, h0, h1⟩ := open_agg2 Tryd.underlying25 (by kernel_rfl) cellsLN hv h
  obtain ⟨a, cap, ps, e0, hp, hpl, hps⟩ := pcs_of_trod h0
  obtain ⟨a', cap', js, e1, hj, hjl, hjs⟩ := jts_of_trod h1
  simp at e0 e1
  subst e0; subst e1
  exact ⟨⟨ps, js⟩, a, a', cap, cap', rfl, hp, hj, ⟨hpl, hps⟩, hjl, hjs⟩
end
end Go.Proofs.YtokhbnlpifmjkaaDoor

/- A list of parts that came in. Own work. -/
import Derived.Test.YtplnppdlabpodaaLwPt
import Derived.Test.YtplnppdlabpodaaRd
namespace Go.Proofs.Ytplnppdlabpodaa
open Go.RowKit Go.Joins Go.Deep Go.WideShapes Go.ChangeShapes
set_option maxRecDepth 100000

theorem cellsLPt : Try.prog.cellsOf 122 = 3 := by kernel_rfl

theorem slice_cells' {P : Program} {w : World} {r : Reach} {b0 : Nat} {t e : TypeId} {v : Value} (ht : P.underlying t = some (.slice e)) (hv : Value.okWide P w r b0 t v) : v.cells = #[v] := by
  obtain ⟨a, len, cap, rfl⟩ := okWide_slice ht hv
  rfl

theorem parts_of_trod {H : Type} {enc : TypeId × Value → H} {w : World} {spare : Nat → Bool} {held : Bool} {v : Value} {d : DataW H} {p : List MemPlace} (hone : v.cells = #[v]) (h : DataW.Trod enc Try.prog w 0 spare held 70 v d p) :
    ∃ (a : Option Addr) (cap : Nat) (ps : List Prt), v = .slice a ps.length cap ∧ PartsAt w a ps ∧ ps.length ≤ maxLen ∧ WfP ps := by
  obtain ⟨fuel, hm⟩ := h
  rcases open_slice Try.underlying70 hm with ⟨hv, _⟩ | ⟨a, len, cap, m, n, D, Pl, hv, _, hlc, hcm, hm', _, hall⟩
  · rw [hone] at hv
    have : v = .slice none 0 0 := by simpa using hv
    subst this
    exact ⟨none, 0, [], rfl, fun k hk => by simp at hk, by simp, fun p hp => by simp at hp⟩
  · rw [hone] at hv
    have : v = .slice (some a) len cap := by simpa using hv
    subst this
    have hlm : len ≤ m := by rw [hm']; split <;> omega
    have hex : ∀ i, i < len → ∃ e : Prt, (w.cell? ((a.add (i * 3)).add 0) = some (.int .i64 e.1) ∧ w.cell? ((a.add (i * 3)).add 1) = some (.int .i64 e.2.1) ∧ w.cell? ((a.add (i * 3)).add 2) = some (.int .i64 e.2.2)) ∧ ((Lit.int .i64 e.1).wf = true ∧ (Lit.int .i64 e.2.1).wf = true ∧ (Lit.int .i64 e.2.2).wf = true) := by
      intro i hi
      obtain ⟨cs', hc, ht⟩ := hall i (by omega)
      rw [cellsLPt] at hc
      obtain ⟨y0, y1, y2, n', _, hlen, h0, h1, h2⟩ := trod_struct3 Try.underlying122 ht
      rw [cellsLPt] at hlen
      obtain ⟨_, _, hcell⟩ := World.cells?_some hc
      match cs', hlen with
      | [v0, v1, v2], _ =>
        simp [cellsI] at h0 h1 h2
        obtain ⟨x0, e0, _, w0⟩ := DataW.trod_int Try.underlying3 h0
        obtain ⟨x1, e1, _, w1⟩ := DataW.trod_int Try.underlying3 h1
        obtain ⟨x2, e2, _, w2⟩ := DataW.trod_int Try.underlying3 h2
        simp at e0 e1 e2
        subst e0; subst e1; subst e2
        exact ⟨(x0, x1, x2), ⟨hcell 0 (by omega), hcell 1 (by omega), hcell 2 (by omega)⟩, w0, w1, w2⟩
    obtain ⟨es, hl, hes⟩ := list_of len hex
    refine ⟨some a, cap, es, by rw [hl], ?_, by omega, ?_⟩
    · intro k hk
      obtain ⟨b, off, spot⟩ := a
      have h00 := (hes 0 (by omega)).1.1
      have hspot : spot = none := by simpa [Addr.add] using World.cell?_spot h00
      subst hspot
      have hk2 := (hes k hk).1
      simp only [add_plain] at hk2
      exact ⟨b, off, rfl, hk2.1, hk2.2.1, hk2.2.2⟩
    · intro e he
      obtain ⟨k, hk, rfl⟩ := List.getElem_of_mem he
      exact (hes k hk).2
end Go.Proofs.Ytplnppdlabpodaa

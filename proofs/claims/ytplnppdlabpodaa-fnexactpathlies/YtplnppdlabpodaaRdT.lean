/- A list of steps that came in. Own work. -/
import Derived.Test.YtplnppdlabpodaaRd
namespace Go.Proofs.Ytplnppdlabpodaa
open Go.RowKit Go.Joins Go.Deep Go.WideShapes Go.ChangeShapes
set_option maxRecDepth 100000

theorem cellsLSt : Try.prog.cellsOf 129 = 2 := by kernel_rfl
theorem slice_cells2 {P : Program} {w : World} {r : Reach} {b0 : Nat} {t e : TypeId} {v : Value} (ht : P.underlying t = some (.slice e)) (hv : Value.okWide P w r b0 t v) : v.cells = #[v] := by
  obtain ⟨a, len, cap, rfl⟩ := okWide_slice ht hv
  rfl

theorem steps_of_trod {H : Type} {enc : TypeId × Value → H} {w : World} {spare : Nat → Bool} {held : Bool} {v : Value} {d : DataW H} {p : List MemPlace} (hone : v.cells = #[v]) (h : DataW.Trod enc Try.prog w 0 spare held 76 v d p) :
    ∃ (a : Option Addr) (cap : Nat) (es : List (Int × Int)), v = .slice a es.length cap ∧ EndsAt w a es ∧ es.length ≤ maxLen := by
  obtain ⟨fuel, hm⟩ := h
  rcases open_slice Try.underlying76 hm with ⟨hv, _⟩ | ⟨a, len, cap, m, n, D, Pl, hv, _, hlc, hcm, hm', _, hall⟩
  · rw [hone] at hv
    have : v = .slice none 0 0 := by simpa using hv
    subst this
    exact ⟨none, 0, [], rfl, fun k hk => by simp at hk, by simp⟩
  · rw [hone] at hv
    have : v = .slice (some a) len cap := by simpa using hv
    subst this
    have hlm : len ≤ m := by rw [hm']; split <;> omega
    have hex : ∀ i, i < len → ∃ e : Int × Int, w.cell? ((a.add (i * 2)).add 0) = some (.int .i64 e.1) ∧ w.cell? ((a.add (i * 2)).add 1) = some (.int .i64 e.2) := by
      intro i hi
      obtain ⟨cs', hc, ht⟩ := hall i (by omega)
      rw [cellsLSt] at hc
      obtain ⟨y0, y1, n', _, hlen, h0, h1⟩ := trod_struct2 Try.underlying129 ht
      rw [cellsLSt] at hlen
      obtain ⟨_, _, hcell⟩ := World.cells?_some hc
      match cs', hlen with
      | [v0, v1], _ =>
        simp [cellsI] at h0 h1
        obtain ⟨x0, e0, _, w0⟩ := DataW.trod_int Try.underlying3 h0
        obtain ⟨x1, e1, _, w1⟩ := DataW.trod_int Try.underlying3 h1
        simp at e0 e1
        subst e0; subst e1
        exact ⟨(x0, x1), hcell 0 (by omega), hcell 1 (by omega)⟩
    obtain ⟨es, hl, hes⟩ := list_of len hex
    refine ⟨some a, cap, es, by rw [hl], ?_, by omega⟩
    intro k hk
    obtain ⟨b, off, spot⟩ := a
    have h00 := (hes 0 (by omega)).1
    have hspot : spot = none := by simpa [Addr.add] using World.cell?_spot h00
    subst hspot
    have hk2 := hes k hk
    simp only [add_plain] at hk2
    exact ⟨b, off, rfl, hk2.1, hk2.2⟩
end Go.Proofs.Ytplnppdlabpodaa

/- A list of steps that came in. Own work. -/
import Derived.Test.YtomeaepdlbomfacRd
import Derived.Test.YtomeaepdlbomfacRows
import Derived.Test.YtomeaepdlbomfacLwPl
import Derived.ProofKit
import Derived.OpenShut
import Derived.ChangeOld
namespace Go.Proofs.Ytomeaepdlbomfac
open Go.RowKit Go.Joins Go.Deep Go.WideShapes Go.ChangeShapes
set_option maxRecDepth 100000

theorem cellsLSt : Try.prog.cellsOf 56 = 2 := by kernel_rfl
theorem slice_cells2 {P : Program} {w : World} {r : Reach} {b0 : Nat} {t e : TypeId} {v : Value} (ht : P.underlying t = some (.slice e)) (hv : Value.okWide P w r b0 t v) : v.cells = #[v] := by
  obtain ⟨a, len, cap, rfl⟩ := okWide_slice ht hv
  rfl

theorem steps_of_trod {H : Type} {enc : TypeId × Value → H} {w : World} {spare : Nat → Bool} {held : Bool} {v : Value} {d : DataW H} {p : List MemPlace} (hone : v.cells = #[v]) (h : DataW.Trod enc Try.prog w 0 spare held 26 v d p) :
    ∃ (a : Option Addr) (cap : Nat) (es : List (Int × Int)), v = .slice a es.length cap ∧ EndsAt w a es ∧ es.length ≤ maxLen := by
  obtain ⟨fuel, hm⟩ := h
  rcases open_slice Try.underlying26 hm with ⟨hv, _⟩ | ⟨a, len, cap, m, n, D, Pl, hv, _, hlc, hcm, hm', _, hall⟩
  · rw [hone] at hv
    have : v = .slice none 0 0 := by simpa using hv
    subst this
    exact ⟨none, 0, [], rfl, fun k hk => by simp at hk, by simp⟩
  · rw [hone] at hv
    have : v = .slice (some a) len cap := by simpa using hv
    subst this
    have hlm : len ≤ m := by rw [hm']; split <;> omega
    have hex : ∀ i, i < len → ∃ e : Int × Int, w.cell? ((a.add (i * 2)).add 0) = some (.int .i64 e.1) ∧ w.cell? ((a.add (i * 2)).add 1) = some (.int .i64 e.2) := by
      intro i hi
      obtain ⟨cs', hc, ht⟩ := hall i (by omega)
      rw [cellsLSt] at hc
      obtain ⟨y0, y1, n', _, hlen, h0, h1⟩ := trod_struct2 Try.underlying56 ht
      rw [cellsLSt] at hlen
      obtain ⟨_, _, hcell⟩ := World.cells?_some hc
      match cs', hlen with
      | [v0, v1], _ =>
        simp [cellsI] at h0 h1
        obtain ⟨x0, e0, _, w0⟩ := DataW.trod_int Try.underlying3 h0
        obtain ⟨x1, e1, _, w1⟩ := DataW.trod_int Try.underlying3 h1
        simp at e0 e1
        subst e0; subst e1
        exact ⟨(x0, x1), hcell 0 (by omega), hcell 1 (by omega)⟩
    obtain ⟨es, hl, hes⟩ := list_of len hex
    refine ⟨some a, cap, es, by rw [hl], ?_, by omega⟩
    intro k hk
    obtain ⟨b, off, spot⟩ := a
    have h00 := (hes 0 (by omega)).1
    have hspot : spot = none := by simpa [Addr.add] using World.cell?_spot h00
    subst hspot
    have hk2 := hes k hk
    simp only [add_plain] at hk2
    exact ⟨b, off, rfl, hk2.1, hk2.2⟩
end Go.Proofs.Ytomeaepdlbomfac

/- FnExactPathLies. Own work. -/
namespace Go.Proofs.Ytomeaepdlbomfac
open Go.ChangeShapes Go.WideShapes Go.ChangeAt Go.RowKit Go.Joins

theorem own_knob : ownKnob Try.prog.godebug = none := by kernel_rfl

set_option maxRecDepth 100000 in
theorem fnExactPathLies_lifted (os : Os) (started : os.Started) (H : Type) (enc : TypeId × Value → H) :
    ReturnsInHanded {} Try.checked os 3 .any (Rows.fnExactPathLiesSpec.pre6 enc Try.prog Try.f3 Rows.fnExactPathLiesRow.domain false) (Rows.fnExactPathLiesSpec.post enc Try.prog Try.f3 false true false false) := by
  refine returnsInHanded_of_change (C := Try.checked) own_knob started (by kernel_rfl) Try.func3
    (ChangeSpec.witness6 (enc := enc) (C := Try.checked) false ⟨#[], #[.agg #[.slice none 0 0, .slice none 0 0], .slice none 0 0], []⟩ 8 (by kernel_rfl) (by kernel_rfl) (by kernel_rfl) (by kernel_rfl)) ?_
  intro W base args ds gs before hval0 hW hcnd _
  have hval : ∀ (j : Nat) t v, Try.f3.params[j]? = some t → args[j]? = some v → Value.okWide Try.prog W .any base t v := hval0
  have hW' := hW
  obtain ⟨p, q, hA0, hV, rfl, hfz, hnd⟩ := hW
  have hA : DataW.TrodAll enc Try.prog W 0 (fun _ => true) true Try.f3.params.toList args.toList ds p := hA0
  rw [Try.params3] at hA hval
  obtain ⟨v0, vs0, d0, ds0, p0, q0, hargs, rfl, rfl, h0, r0⟩ := trodAll_cons hA
  obtain ⟨v1, vs1, d1, ds1, p1, q1, rfl, rfl, rfl, h1, r1⟩ := trodAll_cons r0
  obtain ⟨rfl, rfl, rfl⟩ := trodAll_nil r1
  obtain rfl : args = #[v0, v1] := by cases args; simp_all
  obtain ⟨rfl, rfl⟩ := trodVars_none hV
  have lt0 : ∀ x ∈ p0, x.block < W.heap.size := by obtain ⟨m, hm⟩ := h0; exact DataW.trod_lt m _ _ _ hm
  have lt1 : ∀ x ∈ p1, x.block < W.heap.size := by obtain ⟨m, hm⟩ := h1; exact DataW.trod_lt m _ _ _ hm
  obtain ⟨N, a, a', cap, cap', rfl, hp, hj, hn, hl⟩ := net_of_trod (hval 0 25 v0 rfl rfl) h0
  obtain ⟨zl, zlc, ss, rfl, hz, hxl⟩ := steps_of_trod (slice_cells2 Try.underlying26 (hval 1 26 v1 rfl rfl)) h1
  clear hA0 hval0
  refine (fnPathLies_walk a a' zl N cap cap' zlc ss W hp hj hz hn hl hxl).mono fun e W' ⟨he, bel⟩ => ?_
  subst he
  exact ⟨_, rfl, _, _, _, [], _, [], hW', trodAll_mk1 (shut_bool Try.underlying4 _), (trodAll_cons_mk (Below.trod Try.laidOut (by kernel_rfl) (of_decide_eq_true (by kernel_rfl)) h0 bel lt0) (trodAll_cons_mk (Below.trod Try.laidOut (by kernel_rfl) (of_decide_eq_true (by kernel_rfl)) h1 bel lt1) trodAll_mk0)), rfl, bel.frame _, fun h => by cases h⟩

theorem fnExactPathLies_over : Rows.fnExactPathLiesRow.holds Try.pinned (OpenSpec.ofChange Rows.fnExactPathLiesSpec) :=
  OpenClaim.holds_of_wide 3 Try.f3 rfl rfl rfl rfl rfl rfl rfl ⟨rfl, rfl, rfl, rfl, rfl⟩ rfl rfl rfl rfl rfl (by kernel_rfl) Try.func3 (by kernel_rfl)
    (of_decide_eq_true (by kernel_rfl)) (by unfold Func.isWrapper; first | (rw [if_pos (by decide +kernel)]; kernel_rfl) | (rw [if_neg (by decide +kernel)]; exact ⟨rfl, rfl⟩))
    (fun os started H enc _ => fnExactPathLies_lifted os started H enc)
end Go.Proofs.Ytomeaepdlbomfac

/- FnExactPathLies, proved. Own work. -/
namespace Go.Proofs.Ytomeaepdlbomfac
theorem fnExactPathLies_holds : Rows.FnExactPathLiesSaid := fnExactPathLies_over
end Go.Proofs.Ytomeaepdlbomfac

/- A list of steps that came in. Own work. -/
import Derived.Test.YtncanhbmbjoamacGreatRd
import Derived.Test.YtncanhbmbjoamacGreatMxAO
import Derived.Test.YtncanhbmbjoamacGreatRows
import Derived.Test.YtncanhbmbjoamacGreatLwSx
import Derived.ProofKit
import Derived.OpenShut
import Derived.ChangeOld
namespace Go.Proofs.YtncanhbmbjoamacGreat
open Go.RowKit Go.Joins Go.Deep Go.WideShapes Go.ChangeShapes
set_option maxRecDepth 100000

theorem cellsLSt : Tryz.prog.cellsOf 113 = 2 := by kernel_rfl
theorem slice_cells2 {P : Program} {w : World} {r : Reach} {b0 : Nat} {t e : TypeId} {v : Value} (ht : P.underlying t = some (.slice e)) (hv : Value.okWide P w r b0 t v) : v.cells = #[v] := by
  obtain ⟨a, len, cap, rfl⟩ := okWide_slice ht hv
  rfl

theorem steps_of_trod {H : Type} {enc : TypeId × Value → H} {w : World} {spare : Nat → Bool} {held : Bool} {v : Value} {d : DataW H} {p : List MemPlace} (hone : v.cells = #[v]) (h : DataW.Trod enc Tryz.prog w 0 spare held 26 v d p) :
    ∃ (a : Option Addr) (cap : Nat) (es : List (Int × Int)), v = .slice a es.length cap ∧ EndsAt w a es ∧ es.length ≤ maxLen := by
  obtain ⟨fuel, hm⟩ := h
  rcases open_slice Tryz.underlying26 hm with ⟨hv, _⟩ | ⟨a, len, cap, m, n, D, Pl, hv, _, hlc, hcm, hm', _, hall⟩
  · rw [hone] at hv
    have : v = .slice none 0 0 := by simpa using hv
    subst this
    exact ⟨none, 0, [], rfl, fun k hk => by simp at hk, by simp⟩
  · rw [hone] at hv
    have : v = .slice (some a) len cap := by simpa using hv
    subst this
    have hlm : len ≤ m := by rw [hm']; split <;> omega
    have hex : ∀ i, i < len → ∃ e : Int × Int, w.cell? ((a.add (i * 2)).add 0) = some (.int .i64 e.1) ∧ w.cell? ((a.add (i * 2)).add 1) = some (.int .i64 e.2) := by
      intro i hi
      obtain ⟨cs', hc, ht⟩ := hall i (by omega)
      rw [cellsLSt] at hc
      obtain ⟨y0, y1, n', _, hlen, h0, h1⟩ := trod_struct2 Tryz.underlying113 ht
      rw [cellsLSt] at hlen
      obtain ⟨_, _, hcell⟩ := World.cells?_some hc
      match cs', hlen with
      | [v0, v1], _ =>
        simp [cellsI] at h0 h1
        obtain ⟨x0, e0, _, w0⟩ := DataW.trod_int Tryz.underlying3 h0
        obtain ⟨x1, e1, _, w1⟩ := DataW.trod_int Tryz.underlying3 h1
        simp at e0 e1
        subst e0; subst e1
        exact ⟨(x0, x1), hcell 0 (by omega), hcell 1 (by omega)⟩
    obtain ⟨es, hl, hes⟩ := list_of len hex
    refine ⟨some a, cap, es, by rw [hl], ?_, by omega⟩
    intro k hk
    obtain ⟨b, off, spot⟩ := a
    have h00 := (hes 0 (by omega)).1
    have hspot : spot = none := by simpa [Addr.add] using World.cell?_spot h00
    subst hspot
    have hk2 := hes k hk
    simp only [add_plain] at hk2
    exact ⟨b, off, rfl, hk2.1, hk2.2⟩
end Go.Proofs.YtncanhbmbjoamacGreat

/- A spot, and a list of numbers, that came in. Own work. -/
namespace Go.Proofs.YtncanhbmbjoamacGreat
open Go.ChangeShapes Go.WideShapes Go.ChangeAt Go.RowKit Go.Joins

set_option maxRecDepth 100000 in
theorem spot_of_trod {H : Type} {enc : TypeId × Value → H} {w : World} {spare : Nat → Bool} {held : Bool} {r : Reach} {b0 : Nat} {v : Value} {d : DataW H} {p : List MemPlace} (hv : Value.okWide Tryz.prog w r b0 31 v) (h : DataW.Trod enc Tryz.prog w 0 spare held 31 v d p) :
    ∃ x y z : Int, v = .agg #[.int .i64 x, .int .i64 y, .int .i64 z] ∧ Wf3 x y z := by
  obtain ⟨v0, v1, v2, y0, y1, y2, n, rfl, _, _, h0, h1, h2⟩ := open_agg3 Tryz.underlying31 (by kernel_rfl) (by kernel_rfl) hv h
  obtain ⟨x, e0, _, w0⟩ := DataW.trod_int Tryz.underlying3 h0
  obtain ⟨y, e1, _, w1⟩ := DataW.trod_int Tryz.underlying3 h1
  obtain ⟨z, e2, _, w2⟩ := DataW.trod_int Tryz.underlying3 h2
  simp at e0 e1 e2
  subst e0; subst e1; subst e2
  exact ⟨x, y, z, rfl, w0, w1, w2⟩
end Go.Proofs.YtncanhbmbjoamacGreat

/- A path that came in. Own work. -/
namespace Go.Proofs.YtncanhbmbjoamacGreat
open Go.RowKit Go.Joins Go.Deep Go.WideShapes Go.ChangeShapes Go.ChangeAt
set_option maxRecDepth 100000

theorem cells_stepsC : Tryz.prog.cellsOf 113 = 2 := by kernel_rfl
theorem stepsC {H : Type} {enc : TypeId × Value → H} {w : World} {spare : Nat → Bool} {held : Bool} {fuel : Nat} {cs : List Value} {x : DataW H × List MemPlace} (h : DataW.trod enc Tryz.prog w 0 spare held fuel 26 cs = some x) :
    ∃ (a : Option Addr) (cap : Nat) (es : List (Int × Int)), cs = [.slice a es.length cap] ∧ EndsAt w a es ∧ es.length ≤ maxLen := by
  have hm := h
  rcases open_slice Tryz.underlying26 hm with ⟨hv, _⟩ | ⟨a, len, cap, m, n, D, Pl, hv, _, hlc, hcm, hm', _, hall⟩
  · exact ⟨none, 0, [], by simpa using hv, fun k hk => by simp at hk, by simp⟩
  · have hlm : len ≤ m := by rw [hm']; split <;> omega
    have hex : ∀ i, i < len → ∃ e : Int × Int, w.cell? ((a.add (i * 2)).add 0) = some (.int .i64 e.1) ∧ w.cell? ((a.add (i * 2)).add 1) = some (.int .i64 e.2) := by
      intro i hi
      obtain ⟨cs', hc, ht⟩ := hall i (by omega)
      rw [cells_stepsC] at hc
      obtain ⟨y0, y1, n', _, hlen, h0, h1⟩ := trod_struct2 Tryz.underlying113 ht
      rw [cells_stepsC] at hlen
      obtain ⟨_, _, hcell⟩ := World.cells?_some hc
      match cs', hlen with
      | [v0, v1], _ =>
        simp [cellsI] at h0 h1
        obtain ⟨x0, e0, _, w0⟩ := DataW.trod_int Tryz.underlying3 h0
        obtain ⟨x1, e1, _, w1⟩ := DataW.trod_int Tryz.underlying3 h1
        simp at e0 e1
        subst e0; subst e1
        exact ⟨(x0, x1), hcell 0 (by omega), hcell 1 (by omega)⟩
    obtain ⟨es, hl, hes⟩ := list_of len hex
    refine ⟨some a, cap, es, by rw [hl]; simpa using hv, ?_, by omega⟩
    intro k hk
    obtain ⟨b, off, spot⟩ := a
    have h00 := (hes 0 (by omega)).1
    have hspot : spot = none := by simpa [Addr.add] using World.cell?_spot h00
    subst hspot
    have hk2 := hes k hk
    simp only [add_plain] at hk2
    exact ⟨b, off, rfl, hk2.1, hk2.2⟩

theorem cells_liesC : Tryz.prog.cellsOf 115 = 2 := by kernel_rfl
theorem liesC {H : Type} {enc : TypeId × Value → H} {w : World} {spare : Nat → Bool} {held : Bool} {fuel : Nat} {cs : List Value} {x : DataW H × List MemPlace} (h : DataW.trod enc Tryz.prog w 0 spare held fuel 27 cs = some x) :
    ∃ (a : Option Addr) (cap : Nat) (es : List (Int × Int)), cs = [.slice a es.length cap] ∧ EndsAt w a es ∧ es.length ≤ maxLen := by
  have hm := h
  rcases open_slice Tryz.underlying27 hm with ⟨hv, _⟩ | ⟨a, len, cap, m, n, D, Pl, hv, _, hlc, hcm, hm', _, hall⟩
  · exact ⟨none, 0, [], by simpa using hv, fun k hk => by simp at hk, by simp⟩
  · have hlm : len ≤ m := by rw [hm']; split <;> omega
    have hex : ∀ i, i < len → ∃ e : Int × Int, w.cell? ((a.add (i * 2)).add 0) = some (.int .i64 e.1) ∧ w.cell? ((a.add (i * 2)).add 1) = some (.int .i64 e.2) := by
      intro i hi
      obtain ⟨cs', hc, ht⟩ := hall i (by omega)
      rw [cells_liesC] at hc
      obtain ⟨y0, y1, n', _, hlen, h0, h1⟩ := trod_struct2 Tryz.underlying115 ht
      rw [cells_liesC] at hlen
      obtain ⟨_, _, hcell⟩ := World.cells?_some hc
      match cs', hlen with
      | [v0, v1], _ =>
        simp [cellsI] at h0 h1
        obtain ⟨x0, e0, _, w0⟩ := DataW.trod_int Tryz.underlying3 h0
        obtain ⟨x1, e1, _, w1⟩ := DataW.trod_int Tryz.underlying3 h1
        simp at e0 e1
        subst e0; subst e1
        exact ⟨(x0, x1), hcell 0 (by omega), hcell 1 (by omega)⟩
    obtain ⟨es, hl, hes⟩ := list_of len hex
    refine ⟨some a, cap, es, by rw [hl]; simpa using hv, ?_, by omega⟩
    intro k hk
    obtain ⟨b, off, spot⟩ := a
    have h00 := (hes 0 (by omega)).1
    have hspot : spot = none := by simpa [Addr.add] using World.cell?_spot h00
    subst hspot
    have hk2 := hes k hk
    simp only [add_plain] at hk2
    exact ⟨b, off, rfl, hk2.1, hk2.2⟩

theorem path_of_trod {H : Type} {enc : TypeId × Value → H} {w : World} {spare : Nat → Bool} {held : Bool} {r : Reach} {b0 : Nat} {v : Value} {d : DataW H} {p : List MemPlace} (hv : Value.okWide Tryz.prog w r b0 29 v) (h : DataW.Trod enc Tryz.prog w 0 spare held 29 v d p) :
    ∃ (ok : Bool) (far : Int) (z zl : Option Addr) (zc zlc : Nat) (ss ls : List (Int × Int)), v = .agg #[.bool ok, .int .i64 far, .slice z ss.length zc, .slice zl ls.length zlc] ∧ EndsAt w z ss ∧ EndsAt w zl ls ∧ ss.length ≤ maxLen ∧ ls.length ≤ maxLen := by
  obtain ⟨v0, v1, v2, v3, y0, y1, y2, y3, n, rfl, _, _, h0, h1, h2, h3⟩ := open_agg4 Tryz.underlying29 (by kernel_rfl) (by kernel_rfl) hv h
  obtain ⟨ok, e0, _⟩ := DataW.trod_bool Tryz.underlying4 h0
  obtain ⟨far, e1, _, w1⟩ := DataW.trod_int Tryz.underlying3 h1
  obtain ⟨z, zc, ss, e2, hz, hx⟩ := stepsC h2
  obtain ⟨zl, zlc, ls, e3, hzl, hy⟩ := liesC h3
  simp at e0 e1 e2 e3
  subst e0; subst e1; subst e2; subst e3
  exact ⟨ok, far, z, zl, zc, zlc, ss, ls, rfl, hz, hzl, hx, hy⟩
end Go.Proofs.YtncanhbmbjoamacGreat

/- FnExactStretch, the row. Own work. -/
namespace Go.Proofs.YtncanhbmbjoamacGreat
open Go.ChangeShapes Go.WideShapes Go.ChangeAt Go.RowKit Go.Joins

theorem own_knob : ownKnob Tryz.prog.godebug = none := by kernel_rfl

set_option maxRecDepth 100000 in
theorem fnExactStretch_lifted (os : Os) (started : os.Started) (H : Type) (enc : TypeId × Value → H) :
    ReturnsInHanded {} Tryz.checked os 3 .any (Rows.fnExactStretchSpec.pre6 enc Tryz.prog Tryz.f3 Rows.fnExactStretchRow.domain false) (Rows.fnExactStretchSpec.post enc Tryz.prog Tryz.f3 false true false false) := by
  refine returnsInHanded_of_change (C := Tryz.checked) own_knob started (by kernel_rfl) Tryz.func3
    (ChangeSpec.witness6 (enc := enc) (C := Tryz.checked) false ⟨#[], #[.agg #[.slice none 0 0, .slice none 0 0], .agg #[.bool false, .int .i64 0, .slice none 0 0, .slice none 0 0], .agg #[.int .i64 0, .int .i64 0, .int .i64 0]], []⟩ 8 (by kernel_rfl) (by kernel_rfl) (by kernel_rfl) (by kernel_rfl)) ?_
  intro W base args ds gs before hval0 hW hcnd _
  have hval : ∀ (j : Nat) t v, Tryz.f3.params[j]? = some t → args[j]? = some v → Value.okWide Tryz.prog W .any base t v := hval0
  have hW' := hW
  obtain ⟨p, q, hA0, hV, rfl, hfz, hnd⟩ := hW
  have hA : DataW.TrodAll enc Tryz.prog W 0 (fun _ => true) true Tryz.f3.params.toList args.toList ds p := hA0
  rw [Tryz.params3] at hA hval
  obtain ⟨v0, vs0, d0, ds0, p0, q0, hargs, rfl, rfl, h0, r0⟩ := trodAll_cons hA
  obtain ⟨v1, vs1, d1, ds1, p1, q1, rfl, rfl, rfl, h1, r1⟩ := trodAll_cons r0
  obtain ⟨v2, vs2, d2, ds2, p2, q2, rfl, rfl, rfl, h2, r2⟩ := trodAll_cons r1
  obtain ⟨rfl, rfl, rfl⟩ := trodAll_nil r2
  obtain rfl : args = #[v0, v1, v2] := by cases args; simp_all
  obtain ⟨rfl, rfl⟩ := trodVars_none hV
  have lt0 : ∀ x ∈ p0, x.block < W.heap.size := by obtain ⟨m, hm⟩ := h0; exact DataW.trod_lt m _ _ _ hm
  have lt1 : ∀ x ∈ p1, x.block < W.heap.size := by obtain ⟨m, hm⟩ := h1; exact DataW.trod_lt m _ _ _ hm
  obtain ⟨N, a, a', cap, cap', rfl, hp, hj, hn, hl⟩ := net_of_trod (hval 0 25 v0 rfl rfl) h0
  have lt2 : ∀ x ∈ p2, x.block < W.heap.size := by obtain ⟨m, hm⟩ := h2; exact DataW.trod_lt m _ _ _ hm
  obtain ⟨ok, far, zs, zl, zc, zlc, ss, ls, rfl, hz, hzl, hxl, hyl⟩ := path_of_trod (hval 1 29 v1 rfl rfl) h1
  obtain ⟨x, y, z, rfl, hwf⟩ := spot_of_trod (hval 2 31 v2 rfl rfl) h2
  clear hA0 hval0
  refine (fnStretch_walk a a' zs zl N cap cap' zc zlc ok far ss ls x y z W hwf hp hj hz hzl hn hl hxl hyl).mono fun e W' ⟨he, bel⟩ => ?_
  subst he
  exact ⟨_, rfl, _, _, _, [], _, [], hW', trodAll_mk1 (shut_bool Tryz.underlying4 _), (trodAll_cons_mk (Below.trod Tryz.laidOut (by kernel_rfl) (of_decide_eq_true (by kernel_rfl)) h0 bel lt0) (trodAll_cons_mk (Below.trod Tryz.laidOut (by kernel_rfl) (of_decide_eq_true (by kernel_rfl)) h1 bel lt1) (trodAll_cons_mk (Below.trod Tryz.laidOut (by kernel_rfl) (of_decide_eq_true (by kernel_rfl)) h2 bel lt2) trodAll_mk0))), rfl, bel.frame _, fun h => by cases h⟩

theorem fnExactStretch_over : Rows.fnExactStretchRow.holds Tryz.pinned (OpenSpec.ofChange Rows.fnExactStretchSpec) :=
  OpenClaim.holds_of_wide 3 Tryz.f3 rfl rfl rfl rfl rfl rfl rfl ⟨rfl, rfl, rfl, rfl, rfl⟩ rfl rfl rfl rfl rfl (by kernel_rfl) Tryz.func3 (by kernel_rfl)
    (of_decide_eq_true (by kernel_rfl)) (by unfold Func.isWrapper; first | (rw [if_pos (by decide +kernel)]; kernel_rfl) | (rw [if_neg (by decide +kernel)]; exact ⟨rfl, rfl⟩))
    (fun os started H enc _ => fnExactStretch_lifted os started H enc)
end Go.Proofs.YtncanhbmbjoamacGreat

/- FnExactStretch, proved. Own work. -/
namespace Go.Proofs.YtncanhbmbjoamacGreat
theorem fnExactStretch_holds : Rows.FnExactStretchSaid := fnExactStretch_over
end Go.Proofs.YtncanhbmbjoamacGreat

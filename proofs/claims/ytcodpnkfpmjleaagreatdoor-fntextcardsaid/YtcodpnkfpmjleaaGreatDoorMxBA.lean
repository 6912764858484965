/- What the cards of FnText and FnSpoilt lean on: the laid variables, a world that has them. Own work. -/
import Derived.Test.YtcodpnkfpmjleaaGreatDoorRows
import Derived.Test.YtcodpnkfpmjleaaGreatDoorLwTx
import Derived.ProofKit
import Derived.OpenShut
import Derived.ChangeOld
import Derived.LaidMore
import Derived.LaidLaws
import Derived.LaidHandle
import Derived.Lay
import Derived.HandedShaped
import Derived.Shelf.Vars
import Derived.Stop.Joined
import Derived.Test.YtcodpnkfpmjleaaGreatDoorMxAU
import Derived.Test.YtcodpnkfpmjleaaGreatDoorMxAG
import Derived.Test.YtcodpnkfpmjleaaGreatDoorCards
import Derived.Test.YtcodpnkfpmjleaaGreatDoorTie
import Derived.SevenTiedAt
namespace Go.Proofs.YtcodpnkfpmjleaaGreatDoor
open Go.ChangeShapes Go.WideShapes Go.ChangeAt Go.RowKit

theorem own_knob : ownKnob Tryz.prog.godebug = none := by kernel_rfl
theorem et_named : Tryz.prog.globalNamed "errors.errorType" = some 0 := by kernel_rfl
theorem rt_type : (Tryz.prog.cutTypes.find? (·.1 == "internal/reflectlite.rtype")).map (·.2) = some 197 := by kernel_rfl
theorem rt_size : Tryz.prog.types.size = 303 := by kernel_rfl
theorem rt_row : ((List.range 303).filter fun t => Tryz.prog.rowNamed t [101, 114, 114, 111, 114]) = [77] := by kernel_rfl
theorem pow10_type : (Tryz.prog.globals[2]?).map (·.type) = some 261 := by kernel_rfl
theorem pow10_u : Tryz.prog.underlying 261 = some (.array 20 55) := Tryz.underlying261
theorem pow10_e : Tryz.prog.underlying 55 = some (.int .u64) := Tryz.underlying55
theorem pow10_ce : Tryz.prog.cellsOf 55 = 1 := by kernel_rfl
theorem pow10_ct : Tryz.prog.cellsOf 261 = 20 := by kernel_rfl

def twPlain : List (String × DataW Unit) := [("math/bits.deBruijn32tab", Rows.laid_math_bits_deBruijn32tab), ("math/bits.deBruijn64tab", Rows.laid_math_bits_deBruijn64tab), ("internal/strconv.uint64pow10", Rows.laid_internal_strconv_uint64pow10), ("unicode/utf8.acceptRanges", Rows.laid_unicode_utf8_acceptRanges), ("unicode/utf8.first", Rows.laid_unicode_utf8_first)]
theorem tw_parts {W : World} (h : laidMetH Tryz.prog Rows.fnTextRow.laid W) : laidMet Tryz.prog twPlain W ∧ handlesMet Tryz.prog [("errors.errorType", Rows.laid_errors_errorType)] W := h
/-- What the condition gives the walk: the handle of 'error'. -/
theorem handle_of_laid {W : World} (h : laidMetH Tryz.prog Rows.fnTextRow.laid W) : W.cell? ⟨0, 0, none⟩ = some (rtI 77) := by
  have h' := tw_parts h
  obtain ⟨name, u, ty, e1, e2, e3, e4, e5⟩ := h'.2 _ (List.mem_singleton.2 rfl)
  have en : name = [101, 114, 114, 111, 114] := (Option.some.inj e1).symm
  subst en
  obtain rfl := Option.some.inj (rt_type.symm.trans e2)
  have hm : ty ∈ (List.range 303).filter fun t => Tryz.prog.rowNamed t [101, 114, 114, 111, 114] := List.mem_filter.2 ⟨List.mem_range.2 (by rw [← rt_size]; exact e3), e4⟩
  rw [rt_row] at hm
  obtain rfl := List.mem_singleton.1 hm
  have hh : typeHandle Tryz.prog 77 = rtH 77 := by kernel_rfl
  rw [hh] at e5
  simpa using World.var?_cell et_named e5 0
/-- And the table of powers. -/
theorem tab_of_laid {W : World} (h : laidMetH Tryz.prog Rows.fnTextRow.laid W) : Tab W := by
  obtain ⟨ps, ⟨g0, t0, cs0, f0, p0, q0, _, _, _, _, ⟨g1, t1, cs1, f1, p1, q1, _, _, _, _, ⟨g2, t2, cs2, f2, p2, q2, hg2, ht2, hv2, hd2, _, _⟩, _⟩, _⟩, _, _⟩ := (tw_parts h).1
  obtain rfl := Option.some.inj (tab_named.symm.trans hg2)
  obtain rfl := Option.some.inj (pow10_type.symm.trans ht2)
  unfold Tab Lib.TabIs
  rw [hv2, ← Lib.cells_of_tab (zs := Lib.pow10Tab) pow10_u pow10_e pow10_ce pow10_ct hd2]
/-- MaxLen holds some int, by the world's shape. -/
theorem mx_of_shape {W : World} (h : W.ShapedOpen Tryz.prog) : MX W :=
  cell_of_shapedOpen_int (g := 1) (t := 3) (zero := #[.int .i64 0]) (k := .i64) h (of_decide_eq_true (by kernel_rfl)) (by kernel_rfl) rfl (by kernel_rfl) (by kernel_rfl) Tryz.underlying3

def twGreat : List String := ["math/bits.deBruijn32tab", "math/bits.deBruijn64tab", "internal/strconv.uint64pow10", "unicode/utf8.acceptRanges", "unicode/utf8.first"]
/-- A world that meets the condition. -/
noncomputable def twW0 (os : Os) : World :=
  let w0 := World.holding Tryz.prog os ⟨#[], #[], []⟩
  { w0 with heap := w0.heap.modify 0 fun
      | .cells _ t frozen => .cells #[rtI 77] t frozen
      | o => o }
noncomputable def twW (os : Os) : World := (twW0 os).layVars Tryz.prog twPlain
theorem twW_os (os : Os) : (twW os).os = os := World.layVars_os _ _ _
theorem tw_f : (Rows.fnTextRow.laid.filter fun x => x.2.handleName?.isNone) = twPlain := by kernel_rfl
theorem tw_e1 : (twPlain.filter fun x => twGreat.contains x.1) = twPlain := by kernel_rfl
theorem tw_e2 : (twPlain.filter fun x => !twGreat.contains x.1) = [] := by kernel_rfl
theorem tw_fits (os : Os) : (twW0 os).layFits Tryz.prog twPlain [] = true := by kernel_rfl
theorem tw_ifaces (os : Os) : (twW0 os).layIfaces Tryz.prog twPlain (twW os) = true := by kernel_rfl
theorem tw_met (os : Os) (args : Array Value) : laidMetH Tryz.prog Rows.fnTextRow.laid ((twW os).forCall (fun _ _ => 0) ⟨#[], args, []⟩).memory := by
  refine laidMetH_of_parts ?_ (by kernel_rfl)
  rw [tw_f]
  have h : laidMet Tryz.prog twPlain (twW os) := laidMet_layVars (w0 := twW0 os) twGreat [] (by rw [tw_e1]; rfl) (by rw [tw_e1]; exact tw_fits os) (by rw [tw_e1]; exact tw_ifaces os) (by rw [tw_e2]; exact LaidIn.none)
  exact h.of_heap (by simp [World.memory, World.forCall, Input.heap])
/-- The kit's wrap with a condition, the world's shape kept. -/
theorem returns_and_shaped {H : Type} {enc : TypeId × Value → H} {a : Assume} {C : Checked} {os : Os} {f : FuncId} {fn : Func} {s : ChangeSpec} {conds : List PathCond} {apart fresh handsOn again : Bool} {X : World → Array Value → Prop}
    (hX : ∀ (w w' : World) (args : Array Value), w.heap = w'.heap → X w args → X w' args)
    (own : ownKnob C.prog.godebug = none) (started : os.Started) (noInit : C.prog.inits.idxOf? f = none) (hfn : C.prog.funcs[f]? = some fn)
    (witness : ∃ (w : World) (tape : Tape) (i : Input), w.os = os ∧ (w.forCall tape i).Shaped C.prog ∧ i.vars = [] ∧ Input.okWide C.prog (w.forCall tape i) .any w.heap.size f i ∧
      ((s.pre enc C.prog fn conds apart (w.forCall tape i).memory i.args ∧ X (w.forCall tape i).memory i.args) ∧ sizedMet enc C.prog fn (OpenSpec.ofChange s) apart (w.forCall tape i).memory i.args) ∧ a.holds C.prog (lone (Frame.enter C.prog f i.args .normal) [] (w.forCall tape i)))
    (contract : ∀ (W : World) (base : Nat) (args : Array Value) (ds gs : List (DataW H)) (before : List MemPlace),
      (∀ (j : Nat) t v, fn.params[j]? = some t → args[j]? = some v → Value.okWide C.prog W .any base t v) →
      DataW.Whole enc C.prog fn.params.toList s.vars apart W args.toList ds gs before → X W args → W.ShapedOpen C.prog →
      Calls C.prog f args W fun e W' => ∃ v, e = .returned v ∧ s.post enc C.prog fn apart fresh handsOn again W args v W') :
    ReturnsInHanded a C os f .any (fun w args => (s.pre enc C.prog fn conds apart w args ∧ X w args) ∧ sizedMet enc C.prog fn (OpenSpec.ofChange s) apart w args) (s.post enc C.prog fn apart fresh handsOn again) := by
  refine returnsInHanded_of_calls own started noInit witness ?_
  intro w tape i _ hsh _ hok hpre _
  obtain ⟨_, _, _, fn', hfn', _, _, _, _, hval⟩ := hok
  have e : fn' = fn := Option.some.inj (hfn'.symm.trans hfn)
  subst e
  obtain ⟨⟨⟨ds, gs, before, hw, _⟩, hx⟩, _⟩ := hpre
  have hw' := DataW.Whole.of_heap (w' := w.forCall tape i) (by rfl) hw
  refine (contract (w.forCall tape i) w.heap.size i.args ds gs before hval hw' (hX _ _ _ (by rfl) hx) hsh).mono fun e W' ⟨v, he, hp⟩ => ?_
  subst he
  exact ChangeSpec.post_blind hp

end Go.Proofs.YtcodpnkfpmjleaaGreatDoor

/- Bytes that came in. Own work. -/
namespace Go.Proofs.YtcodpnkfpmjleaaGreatDoor
open Go.RowKit Go.Joins Go.Deep Go.WideShapes Go.ChangeShapes
set_option maxRecDepth 100000

theorem cellsU8 : Tryz.prog.cellsOf 5 = 1 := by kernel_rfl
theorem slice_cells3 {P : Program} {w : World} {r : Reach} {b0 : Nat} {t e : TypeId} {v : Value} (ht : P.underlying t = some (.slice e)) (hv : Value.okWide P w r b0 t v) : v.cells = #[v] := by
  obtain ⟨a, len, cap, rfl⟩ := okWide_slice ht hv
  rfl

theorem bytes_of_trod {H : Type} {enc : TypeId × Value → H} {w : World} {spare : Nat → Bool} {held : Bool} {v : Value} {d : DataW H} {p : List MemPlace} (hone : v.cells = #[v]) (h : DataW.Trod enc Tryz.prog w 0 spare held 22 v d p) :
    ∃ (a : Option Addr) (cap : Nat) (xs : List Int), v = .slice a xs.length cap ∧ BytesAt w a xs ∧ xs.length ≤ maxLen ∧ Bys xs := by
  obtain ⟨fuel, hm⟩ := h
  rcases open_slice Tryz.underlying22 hm with ⟨hv, _⟩ | ⟨a, len, cap, m, n, D, Pl, hv, _, hlc, hcm, hm', _, hall⟩
  · rw [hone] at hv
    have : v = .slice none 0 0 := by simpa using hv
    subst this
    exact ⟨none, 0, [], rfl, fun k hk => by simp at hk, by simp, fun x hx => by simp at hx⟩
  · rw [hone] at hv
    have : v = .slice (some a) len cap := by simpa using hv
    subst this
    have hlm : len ≤ m := by rw [hm']; split <;> omega
    have hex : ∀ i, i < len → ∃ x : Int, w.cell? ((a.add (i * 1)).add 0) = some (.int .u8 x) ∧ (0 ≤ x ∧ x < 256) := by
      intro i hi
      obtain ⟨cs', hc, ht⟩ := hall i (by omega)
      rw [cellsU8] at hc
      obtain ⟨_, hlen, hcell⟩ := World.cells?_some hc
      obtain ⟨x0, e0, _, w0⟩ := DataW.trod_int Tryz.underlying5 ht
      subst e0
      refine ⟨x0, hcell 0 (by omega), ?_⟩
      simp only [Lit.wf, IntKind.min, IntKind.max, IntKind.bits, IntKind.signed, Bool.and_eq_true] at w0
      simp at w0
      omega
    obtain ⟨xs, hl, hxs⟩ := list_of len hex
    refine ⟨some a, cap, xs, by rw [hl], ?_, by omega, ?_⟩
    · intro k hk
      obtain ⟨b, off, spot⟩ := a
      have h00 := (hxs 0 (by omega)).1
      have hspot : spot = none := by simpa [Addr.add] using World.cell?_spot h00
      subst hspot
      have hk2 := (hxs k hk).1
      simp only [add_plain, Nat.mul_one, Nat.add_zero] at hk2
      exact ⟨b, off, rfl, hk2⟩
    · intro x hx
      obtain ⟨k, hk, rfl⟩ := List.getElem_of_mem hx
      exact (hxs k hk).2
end Go.Proofs.YtcodpnkfpmjleaaGreatDoor

/- FnText, for every input; its tied card. Own work. -/
namespace Go.Proofs.YtcodpnkfpmjleaaGreatDoor
open Go.ChangeShapes Go.WideShapes Go.ChangeAt Go.RowKit Go.Joins

set_option maxRecDepth 100000 in
theorem fnText_lifted (os : Os) (started : os.Started) (H : Type) (enc : TypeId × Value → H) :
    ReturnsInHanded {} Tryz.checked os 3 .any (fun w args => (Rows.fnTextSpec.pre enc Tryz.prog Tryz.f3 [] false w args ∧ laidMetH Tryz.prog Rows.fnTextRow.laid w) ∧ sizedMet enc Tryz.prog Tryz.f3 (OpenSpec.ofChange Rows.fnTextSpec) false w args)
      (Rows.fnTextSpec.post enc Tryz.prog Tryz.f3 false true false false) := by
  refine returns_and_shaped (C := Tryz.checked) (X := fun w _ => laidMetH Tryz.prog Rows.fnTextRow.laid w) (fun _ _ _ hh h => h.of_heap hh) own_knob started (by kernel_rfl) Tryz.func3
    (ChangeSpec.witness_shaped (enc := enc) (C := Tryz.checked) (os := os) (X := fun w _ => laidMetH Tryz.prog Rows.fnTextRow.laid w) false (twW os) #[.slice none 0 0, .slice none 0 0] 8 (twW_os os) (World.shaped_of_ZipB (by kernel_rfl) (by kernel_rfl)) (by kernel_rfl) (by kernel_rfl) (by kernel_rfl) (tw_met os _)) ?_
  intro W base args ds gs before hval0 hW hL hsh
  have hval : ∀ (j : Nat) t v, Tryz.f3.params[j]? = some t → args[j]? = some v → Value.okWide Tryz.prog W .any base t v := hval0
  have hW' := hW
  obtain ⟨p, q, hA0, hV, rfl, hfz, hnd⟩ := hW
  have hA : DataW.TrodAll enc Tryz.prog W 0 (fun _ => true) true Tryz.f3.params.toList args.toList ds p := hA0
  rw [Tryz.params3] at hA hval
  obtain ⟨v0, vs0, d0, ds0, p0, q0, hargs, rfl, rfl, h0, r0⟩ := trodAll_cons hA
  obtain ⟨v1, vs1, d1, ds1, p1, q1, rfl, rfl, rfl, h1, r1⟩ := trodAll_cons r0
  obtain ⟨rfl, rfl, rfl⟩ := trodAll_nil r1
  obtain rfl : args = #[v0, v1] := by cases args; simp_all
  obtain ⟨rfl, rfl⟩ := trodVars_none hV
  have lt0 : ∀ x ∈ p0, x.block < W.heap.size := by obtain ⟨m, hm⟩ := h0; exact DataW.trod_lt m _ _ _ hm
  have lt1 : ∀ x ∈ p1, x.block < W.heap.size := by obtain ⟨m, hm⟩ := h1; exact DataW.trod_lt m _ _ _ hm
  obtain ⟨a, cap, code, rfl, hx, hn, hB⟩ := bytes_of_trod (slice_cells3 Tryz.underlying22 (hval 0 22 v0 rfl rfl)) h0
  obtain ⟨z, zc, more, rfl, hz, hn', hB'⟩ := bytes_of_trod (slice_cells3 Tryz.underlying22 (hval 1 22 v1 rfl rfl)) h1
  clear hA0 hval0
  refine (fnText_walk a z cap zc code more W hB hB' hn hn' hx hz (tab_of_laid hL) (mx_of_shape hsh) (handle_of_laid hL)).mono fun e W' ⟨he, bel⟩ => ?_
  subst he
  exact ⟨_, rfl, _, _, _, [], _, [], hW', trodAll_mk1 (shut_bool Tryz.underlying4 _), (trodAll_cons_mk (Below.trod Tryz.laidOut (by kernel_rfl) (of_decide_eq_true (by kernel_rfl)) h0 bel lt0) (trodAll_cons_mk (Below.trod Tryz.laidOut (by kernel_rfl) (of_decide_eq_true (by kernel_rfl)) h1 bel lt1) trodAll_mk0)), rfl, bel.frame _, fun h => by cases h⟩

theorem fnText_holds : Rows.FnTextSaid :=
  OpenClaim.holds_of_wide 3 Tryz.f3 rfl rfl rfl rfl rfl rfl rfl ⟨rfl, rfl, rfl, rfl, rfl⟩ rfl rfl rfl rfl rfl (by kernel_rfl) Tryz.func3 (by kernel_rfl)
    (of_decide_eq_true (by kernel_rfl)) (by unfold Func.isWrapper; first | (rw [if_pos (by decide +kernel)]; kernel_rfl) | (rw [if_neg (by decide +kernel)]; exact ⟨rfl, rfl⟩))
    (fun os started H enc _ => fnText_lifted os started H enc)

theorem fnText_card : Rows.FnTextCardSaid :=
  Claim7.holds_tied_plain_at .later [] [.data, .data, .data, .data, .handle, .pinned] true Rows.fnTextCard.stood.harness Rows.fnTextCard.stood.looks
    fnText_holds (fun _ h => by cases h) (by kernel_rfl) (fun _ h => by cases h) fnText_row_tie rfl ⟨rfl, rfl⟩ (by kernel_rfl) rfl
    (fun f fn hf hfn => by
      obtain rfl : f = 3 := Option.some.inj ((show Tryz.prog.funcNamed "loop.example/ballast/laws.FnText" = some 3 by kernel_rfl).symm.trans hf) |>.symm
      obtain rfl : fn = Tryz.f3 := (Option.some.inj (Tryz.func3.symm.trans hfn)).symm
      exact ⟨by kernel_rfl, fun j t ht => by
        rw [Tryz.params3] at ht
        have hm : t ∈ [22, 22] := by simpa using Array.mem_of_getElem? ht
        have hall : ([22, 22].all fun u => !Tryz.prog.wantsStandIn u) = true := by kernel_rfl
        exact (show Tryz.prog.wantsStandIn t = false by simpa using List.all_eq_true.1 hall t hm)⟩)
    (by kernel_rfl)
end Go.Proofs.YtcodpnkfpmjleaaGreatDoor

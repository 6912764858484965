/- A spot, and a list of numbers, that came in. Own work. -/
import Derived.Test.YtplnppdlabpodaaMxAA
import Derived.Test.YtplnppdlabpodaaRd
import Derived.Test.YtplnppdlabpodaaStC
import Derived.Test.YtplnppdlabpodaaRows
import Derived.Test.YtplnppdlabpodaaLwBehind
import Derived.ProofKit
import Derived.OpenShut
import Derived.ChangeOld
import Derived.Test.YtplnppdlabpodaaMxAB
import Derived.Deep.Light
namespace Go.Proofs.Ytplnppdlabpodaa
open Go.ChangeShapes Go.WideShapes Go.ChangeAt Go.RowKit Go.Joins

set_option maxRecDepth 100000 in
theorem spot_of_trod {H : Type} {enc : TypeId × Value → H} {w : World} {spare : Nat → Bool} {held : Bool} {r : Reach} {b0 : Nat} {v : Value} {d : DataW H} {p : List MemPlace} (hv : Value.okWide Try.prog w r b0 50 v) (h : DataW.Trod enc Try.prog w 0 spare held 50 v d p) :
    ∃ x y z : Int, v = .agg #[.int .i64 x, .int .i64 y, .int .i64 z] ∧ Wf3 x y z := by
  obtain ⟨v0, v1, v2, y0, y1, y2, n, rfl, _, _, h0, h1, h2⟩ := open_agg3 Try.underlying50 (by kernel_rfl) (by kernel_rfl) hv h
  obtain ⟨x, e0, _, w0⟩ := DataW.trod_int Try.underlying3 h0
  obtain ⟨y, e1, _, w1⟩ := DataW.trod_int Try.underlying3 h1
  obtain ⟨z, e2, _, w2⟩ := DataW.trod_int Try.underlying3 h2
  simp at e0 e1 e2
  subst e0; subst e1; subst e2
  exact ⟨x, y, z, rfl, w0, w1, w2⟩
end Go.Proofs.Ytplnppdlabpodaa

/- A list of numbers, and a number, that came in. Own work. -/
namespace Go.Proofs.Ytplnppdlabpodaa
open Go.ChangeShapes Go.WideShapes Go.ChangeAt Go.RowKit Go.Joins

theorem slice_cells {P : Program} {w : World} {r : Reach} {b0 : Nat} {t e : TypeId} {v : Value} (ht : P.underlying t = some (.slice e)) (hv : Value.okWide P w r b0 t v) : v.cells = #[v] := by
  obtain ⟨a, len, cap, rfl⟩ := okWide_slice ht hv
  rfl

theorem ints_of_trod {H : Type} {enc : TypeId × Value → H} {w : World} {spare : Nat → Bool} {held : Bool} {v : Value} {d : DataW H} {p : List MemPlace} (hone : v.cells = #[v]) (h : DataW.Trod enc Try.prog w 0 spare held 57 v d p) :
    ∃ (a : Option Addr) (cap : Nat) (xs : List Int), v = .slice a xs.length cap ∧ IntsAt w a xs ∧ xs.length ≤ maxLen ∧ ∀ x ∈ xs, (Lit.int .i64 x).wf = true := by
  obtain ⟨m, hm⟩ := h
  rcases open_ints Try.underlying57 Try.underlying3 cellsI hm with ⟨hv, _⟩ | ⟨a, len, cap, zs, hv, _, hlc, hcm, hzl, _, hcell, hwf⟩
  · rw [hone] at hv
    have : v = .slice none 0 0 := by simpa using hv
    subst this
    exact ⟨none, 0, [], rfl, fun k hk => by simp at hk, by simp, by simp⟩
  · rw [hone] at hv
    have : v = .slice (some a) len cap := by simpa using hv
    subst this
    have hlz : len ≤ zs.length := by rw [hzl]; split <;> omega
    have hlen : (zs.take len).length = len := by rw [List.length_take]; omega
    refine ⟨some a, cap, zs.take len, by rw [hlen], ?_, by omega, fun x hx => hwf x (List.mem_of_mem_take hx)⟩
    intro k hk
    obtain ⟨b, off, spot⟩ := a
    have h00 := hcell 0 (by omega)
    have hspot : spot = none := by simpa [Addr.add] using World.cell?_spot h00
    subst hspot
    have hk2 := hcell k (by omega)
    rw [add_plain] at hk2
    refine ⟨b, off, rfl, ?_⟩
    rw [hk2]
    have : k < zs.length := by omega
    simp [List.getD, this]
end Go.Proofs.Ytplnppdlabpodaa

/- FnExactBehind, over impl.Behind's contract. Own work. -/
namespace Go.Proofs.Ytplnppdlabpodaa
open Go.ChangeShapes Go.WideShapes Go.ChangeAt Go.RowKit Go.Joins

theorem own_knob : ownKnob Try.prog.godebug = none := by kernel_rfl

set_option maxRecDepth 100000 in
theorem fnExactBehind_lifted (hdone : BehindDone) (os : Os) (started : os.Started) (H : Type) (enc : TypeId × Value → H) :
    ReturnsInHanded {} Try.checked os 10 .any (Rows.fnExactBehindSpec.pre6 enc Try.prog Try.f10 Rows.fnExactBehindRow.domain false) (Rows.fnExactBehindSpec.post enc Try.prog Try.f10 false true false false) := by
  refine returnsInHanded_of_change (C := Try.checked) own_knob started (by kernel_rfl) Try.func10
    (ChangeSpec.witness6 (enc := enc) (C := Try.checked) false ⟨#[], #[.agg #[.slice none 0 0, .slice none 0 0], .slice none 0 0, .agg #[.int .i64 0, .int .i64 0, .int .i64 0], .int .i64 0], []⟩ 8 (by kernel_rfl) (by kernel_rfl) (by kernel_rfl) (by kernel_rfl)) ?_
  intro W base args ds gs before hval0 hW hcnd _
  have hval : ∀ (j : Nat) t v, Try.f10.params[j]? = some t → args[j]? = some v → Value.okWide Try.prog W .any base t v := hval0
  have hW' := hW
  obtain ⟨p, q, hA0, hV, rfl, hfz, hnd⟩ := hW
  have hA : DataW.TrodAll enc Try.prog W 0 (fun _ => true) true Try.f10.params.toList args.toList ds p := hA0
  rw [Try.params10] at hA hval
  obtain ⟨v0, vs0, d0, ds0, p0, q0, hargs, rfl, rfl, h0, r0⟩ := trodAll_cons hA
  obtain ⟨v1, vs1, d1, ds1, p1, q1, rfl, rfl, rfl, h1, r1⟩ := trodAll_cons r0
  obtain ⟨v2, vs2, d2, ds2, p2, q2, rfl, rfl, rfl, h2, r2⟩ := trodAll_cons r1
  obtain ⟨v3, vs3, d3, ds3, p3, q3, rfl, rfl, rfl, h3, r3⟩ := trodAll_cons r2
  obtain ⟨rfl, rfl, rfl⟩ := trodAll_nil r3
  obtain rfl : args = #[v0, v1, v2, v3] := by cases args; simp_all
  obtain ⟨rfl, rfl⟩ := trodVars_none hV
  have lt0 : ∀ x ∈ p0, x.block < W.heap.size := by obtain ⟨m, hm⟩ := h0; exact DataW.trod_lt m _ _ _ hm
  have lt1 : ∀ x ∈ p1, x.block < W.heap.size := by obtain ⟨m, hm⟩ := h1; exact DataW.trod_lt m _ _ _ hm
  obtain ⟨N, a, a', cap, cap', rfl, hp, hj, hn, hl⟩ := net_of_trod (hval 0 25 v0 rfl rfl) h0
  have lt2 : ∀ x ∈ p2, x.block < W.heap.size := by obtain ⟨m, hm⟩ := h2; exact DataW.trod_lt m _ _ _ hm
  obtain ⟨zl, zlc, xs, rfl, hz, hxl, hxw⟩ := ints_of_trod (slice_cells Try.underlying57 (hval 1 57 v1 rfl rfl)) h1
  obtain ⟨x, y, z, rfl, hwf⟩ := spot_of_trod (hval 2 50 v2 rfl rfl) h2
  obtain ⟨far, rfl, rfl, rfl, hff⟩ := open_int Try.underlying3 (hval 3 3 v3 rfl rfl) h3
  clear hA0 hval0
  refine (fnBehind_walk hdone a a' zl N cap cap' zlc xs x y z far W hwf hff hxw hp hj hz hn hl hxl).mono fun e W' ⟨he, bel⟩ => ?_
  subst he
  exact ⟨_, rfl, _, _, _, [], _, [], hW', trodAll_mk1 (shut_bool Try.underlying4 _), (trodAll_cons_mk (Below.trod Try.laidOut (by kernel_rfl) (of_decide_eq_true (by kernel_rfl)) h0 bel lt0) (trodAll_cons_mk (Below.trod Try.laidOut (by kernel_rfl) (of_decide_eq_true (by kernel_rfl)) h1 bel lt1) (trodAll_cons_mk (Below.trod Try.laidOut (by kernel_rfl) (of_decide_eq_true (by kernel_rfl)) h2 bel lt2) (trodAll_cons_mk (shut_int Try.underlying3 hff) trodAll_mk0)))), rfl, bel.frame _, fun h => by cases h⟩

theorem fnExactBehind_over (hdone : BehindDone) : Rows.fnExactBehindRow.holds Try.pinned (OpenSpec.ofChange Rows.fnExactBehindSpec) :=
  OpenClaim.holds_of_wide 10 Try.f10 rfl rfl rfl rfl rfl rfl rfl ⟨rfl, rfl, rfl, rfl, rfl⟩ rfl rfl rfl rfl rfl (by kernel_rfl) Try.func10 (by kernel_rfl)
    (of_decide_eq_true (by kernel_rfl)) (by unfold Func.isWrapper; first | (rw [if_pos (by decide +kernel)]; kernel_rfl) | (rw [if_neg (by decide +kernel)]; exact ⟨rfl, rfl⟩))
    (fun os started H enc _ => fnExactBehind_lifted hdone os started H enc)
end Go.Proofs.Ytplnppdlabpodaa

namespace Go.Proofs.Ytplnppdlabpodaa
open Go.RowKit
set_option maxHeartbeats 400000

theorem inRange_any (x a b : Int) (w : World) : Calls Try.prog 88 #[.int .i64 x, .int .i64 a, .int .i64 b] w fun e w' =>
    e = .returned (.bool (inR x a b)) ∧ w = w' := by
  by_cases h : a ≤ x
  all_goals
    go_enter Try.func88, Try.ntmps88
    go_wp2
    go_ret
    exact ⟨ret_b (by simp [inR]; try omega), rfl⟩

theorem nameByte_any (c : UInt8) (w : World) : Calls Try.prog 141 #[.int .u8 (c.toNat : Int)] w fun e w' =>
    e = .returned (.bool (byteOk c)) ∧ w = w' := by
  unfold byteOk
  generalize (c.toNat : Int) = x
  go_enter Try.func141, Try.ntmps141
  go_wp2
  all_goals go_ret
  all_goals refine ⟨ret_b ?_, rfl⟩
  all_goals go_light
  all_goals first | rfl | (rw [Bool.eq_iff_iff]; simp; omega)

theorem nameOk_any (s : ByteArray) (w : World) (hs : s.size ≤ 1048576) : Calls Try.prog 131 #[.string s] w fun e w' =>
    e = .returned (.bool (nm s)) ∧ w = w' := by
  by_cases hr : inR (s.size : Int) 1 20 = true
  · have h1 : 1 ≤ s.size ∧ s.size ≤ 20 := by simp [inR] at hr; omega
    go_enter Try.func131, Try.ntmps131
    go_wp2_with fail
    refine (inRange_any _ _ _ _).mono ?_
    rintro e w' ⟨rfl, rfl⟩
    rw [hr]
    go_wp2_with fail
    go_loop [10] (fun i => ∃ k : Nat, k ≤ s.size ∧ i = .int .i64 k ∧ (∀ j (hj : j < s.size), j < k → byteOk s[j] = true)) (fun i => s.size - (intOf i).toNat)
    case atStart => exact ⟨0, Nat.zero_le _, rfl, by omega⟩
    case round =>
      obtain ⟨k, hk, rfl, hall⟩ := hrel
      have HA := hide hall
      clear hall
      by_cases hlt : k < s.size
      · cases hc : byteOk s[k]
        · have HB := hide (nm_bad s k hlt hc)
          have HC := hide hc
          clear hc
          go_wp2_with fail
          refine (nameByte_any s[k] _).mono ?_
          rintro e w1 ⟨rfl, rfl⟩
          rw [HC.out]
          go_wp2_with fail
          go_ret
          exact ⟨ret_b HB.out.symm, rfl⟩
        · have HC := hide hc
          clear hc
          go_wp2_with fail
          refine (nameByte_any s[k] _).mono ?_
          rintro e w1 ⟨rfl, rfl⟩
          rw [HC.out]
          go_wp2_with fail
          refine ⟨⟨k + 1, by omega, by go_num, ?_⟩, by simp [intOf]; omega⟩
          intro j hj hjk
          by_cases e : j = k
          · subst e; exact HC.out
          · exact HA.out j hj (by omega)
      · have HN := hide (nm_all s (fun j hj => HA.out j hj (by omega)))
        go_wp2_with fail
        go_ret
        exact ⟨ret_b (by rw [HN.out]; simp; omega), rfl⟩
  · have hr' : inR (s.size : Int) 1 20 = false := by simpa using hr
    have hf : nm s = false := by simp [inR] at hr'; simp [nm]; omega
    have HF := hide hf
    clear hf hr
    go_enter Try.func131, Try.ntmps131
    go_wp2_with fail
    refine (inRange_any _ _ _ _).mono ?_
    rintro e w' ⟨rfl, rfl⟩
    rw [hr']
    go_wp2_with fail
    go_ret
    exact ⟨ret_b HF.out.symm, rfl⟩
end Go.Proofs.Ytplnppdlabpodaa

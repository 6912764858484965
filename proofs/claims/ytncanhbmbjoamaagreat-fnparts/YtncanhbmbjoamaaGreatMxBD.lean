/- impl.inOrder, impl.Touch. Own work. -/
import Derived.Test.YtncanhbmbjoamaaGreatMxBC
import Derived.Test.YtncanhbmbjoamaaGreatMxBB
import Derived.Test.YtncanhbmbjoamaaGreatDrS
import Derived.Test.YtncanhbmbjoamaaGreatMxAT
import Derived.Test.YtncanhbmbjoamaaGreatDwA
import Derived.Test.YtncanhbmbjoamaaGreatRows
import Derived.Test.YtncanhbmbjoamaaGreatLwPs
import Derived.ProofKit
import Derived.OpenShut
import Derived.ChangeOld
namespace Go.Proofs.YtncanhbmbjoamaaGreat
open Go.RowKit Go.Sort Go.Proofs
set_option maxHeartbeats 2000000

theorem cells_parts {w : World} {b o : Nat} {ps : List Prt} (h : PartsAt w (some ⟨b, o, none⟩) ps) : ∀ j u, (partCells ps)[j]? = some u → w.cell? ⟨b, o + j, none⟩ = some u := by
  induction ps generalizing o with
  | nil => intro j u hu; simp [partCells] at hu
  | cons x l ih =>
    intro j u hu
    obtain ⟨b', o', e, c0, c1, c2⟩ := h 0 (by simp)
    obtain ⟨rfl, rfl⟩ : b = b' ∧ o = o' := by simpa using e
    simp only [Nat.zero_mul, Nat.add_zero, List.getElem_cons_zero] at c0 c1 c2
    have hc : partCells (x :: l) = .int .i64 x.1 :: .int .i64 x.2.1 :: .int .i64 x.2.2 :: partCells l := by simp [partCells]
    rw [hc] at hu
    match j, hu with
    | 0, hu => simp at hu; subst hu; exact c0
    | 1, hu => simp at hu; subst hu; exact c1
    | 2, hu => simp at hu; subst hu; exact c2
    | j + 3, hu =>
      simp at hu
      have := ih (parts_tail h) j u hu
      rw [show o + (j + 3) = o + 3 + j by omega]
      exact this

theorem partCells_len (ps : List Prt) : (partCells ps).length = ps.length * 3 := by
  induction ps with
  | nil => rfl
  | cons x l ih => simp only [partCells, List.flatMap_cons, List.length_append, List.length_cons, List.length_nil] at ih ⊢; omega
theorem partCells_one (ps : List Prt) : ∀ u ∈ partCells ps, u.oneCell' = true := by
  intro u hu
  simp [partCells] at hu
  obtain ⟨_, _, _, _, h⟩ := hu
  rcases h with rfl | rfl | rfl <;> rfl
end Go.Proofs.YtncanhbmbjoamaaGreat

/- impl.inOrder. Own work. -/
namespace Go.Proofs.YtncanhbmbjoamaaGreat
open Go.RowKit Go.Sort Go.Proofs
set_option maxHeartbeats 2000000

theorem below_sort (w : World) (B blk n : Nat) (d : Array Prt) (os : Array Obj) (hB : B ≤ blk) (hs : B ≤ w.heap.size) : RowKit.Below B w (sortWorldK encP 3 w blk 0 n d os) := by
  refine ⟨rfl, rfl, rfl, by simp [sortWorldK, putRowK, putRow, mapBlock, grow, Sort.ahead], fun k hk => ?_⟩
  have h1 : k < w.heap.size := by omega
  have h2 : blk ≠ k := by omega
  simp [sortWorldK, putRowK, putRow, mapBlock, grow, Sort.ahead, Array.getElem?_append, h1, Array.getElem_modify, h2]

theorem parts_holds {w : World} {b : Nat} {d : Array Prt} (h : HoldsK encP 3 w b 0 d) : PartsAt w (some ⟨b, 0, none⟩) d.toList := by
  intro k hk
  have hk' : k < d.size := by simpa using hk
  have c : ∀ t, t < 3 → w.cell? ⟨b, 0 + (k * 3 + t), none⟩ = some ((encP d[k]!)[t]!) := fun t ht => by
    have h1 := (h (k * 3 + t) (by rw [size_flatK]; omega)).1
    rw [get_flatK _ _ _ _ (by omega), show (k * 3 + t) / 3 = k by omega, show (k * 3 + t) % 3 = t by omega] at h1
    exact h1
  have e : d[k]! = d[k] := getElem!_pos d k hk'
  rw [e] at c
  refine ⟨b, 0, rfl, ?_, ?_, ?_⟩
  · have := c 0 (by omega); simpa [encP] using this
  · have := c 1 (by omega); simpa [encP, Nat.add_assoc] using this
  · have := c 2 (by omega); simpa [encP, Nat.add_assoc] using this

theorem partCells_get (ps : List Prt) : ∀ k t, (hk : k < ps.length) → t < 3 → (partCells ps)[k * 3 + t]? = some ((encP ps[k])[t]!) := by
  induction ps with
  | nil => intro k t hk; simp at hk
  | cons x l ih =>
    intro k t hk ht
    have hc : partCells (x :: l) = encP x ++ partCells l := by simp [partCells, encP]
    have hl : (encP x).length = 3 := rfl
    rw [hc]
    match k, hk with
    | 0, hk =>
      rw [List.getElem?_append_left (by rw [hl]; omega)]
      simp only [Nat.zero_mul, Nat.zero_add, List.getElem_cons_zero]
      rw [List.getElem?_eq_getElem (by rw [hl]; omega), getElem!_pos (encP x) t (by rw [hl]; omega)]
    | k + 1, hk =>
      rw [List.getElem?_append_right (by rw [hl]; omega), hl, show (k + 1) * 3 + t - 3 = k * 3 + t by omega]
      rw [ih k t (by simp at hk; omega) ht]
      rfl

theorem holds_of_owns {w1 : World} {g : Nat} {cur : Array Value} {T : TypeId} {ps : List Prt} (hg : w1.heap[g]? = some (.cells cur T (0, 0))) (ht : cur.toList.take (ps.length * 3) = partCells ps) : HoldsK encP 3 w1 g 0 ps.toArray := by
  intro j hj
  rw [size_flatK] at hj
  simp at hj
  have hk : j / 3 < ps.length := by omega
  have hp := partCells_get ps (j / 3) (j % 3) hk (by omega)
  rw [show j / 3 * 3 + j % 3 = j by omega, ← ht, List.getElem?_take, if_pos (by omega)] at hp
  refine ⟨?_, by simp [World.frozen?, hg]⟩
  rw [Nat.zero_add, cell_of_row w1 g j cur T (0, 0) hg, get_flatK _ _ _ _ (by simpa using hj)]
  rw [Array.getElem?_toList] at hp
  rw [hp]
  simp only [id]
  rw [getElem!_pos ps.toArray (j / 3) (by simpa using hk)]
  simp
end Go.Proofs.YtncanhbmbjoamaaGreat

/- impl.inOrder, impl.Touch. Own work. -/
namespace Go.Proofs.YtncanhbmbjoamaaGreat
open Go.RowKit Go.Sort Go.Proofs Go.Lib
set_option maxHeartbeats 2000000

theorem implInOrder_nil (ps : List Prt) (h0 : ps.length = 0) (cap : Nat) (w : World) : Calls Tryz.prog 35 #[.slice none ps.length cap] w fun e w' => ∃ (z : Option Addr) (c : Nat) (qs : List Prt), e = .returned (.slice z qs.length c) ∧ qs.length ≤ c ∧ c ≤ maxLen ∧ ps.Perm qs ∧ Sorted qs ∧ PartsAt w' z qs ∧ Below w.heap.size w w' := by
  obtain rfl := List.eq_nil_of_length_eq_zero h0
  have hcl := AnyE.slices_Clone_nil Tryz.cloneP 0 cap w
  change Calls Tryz.prog 74 _ _ _ at hcl
  have HCL := hide hcl
  clear hcl h0
  have eg : ∀ args w, (callFunc 76 args).run Tryz.prog w = .ok (.enter 76 args) w := enters_of Tryz.func76 (by kernel_rfl) rfl
  have hso := AnyF.slices_SortFunc_none Tryz.sortP none 0 (.func (.func 76) #[] #[]) w
  change Calls Tryz.prog 75 _ _ _ at hso
  have HSO := hide hso
  clear hso eg
  go_enter Tryz.func35, Tryz.ntmps35
  go_wp2_with fail
  refine HCL.out.mono ?_
  rintro e w1 ⟨rfl, rfl⟩
  go_wp2_with fail
  refine HSO.out.mono ?_
  rintro e w2 ⟨rfl, rfl⟩
  go_wp2_with fail
  go_ret
  exact ⟨none, 0, [], rfl, by simp, by simp, .refl _, fun i j hi => by simp at hi, fun k hk => by simp at hk, Below.refl _ _⟩

theorem implInOrder_any : InOrderDone := by
  intro z ps cap w hz hl hp
  rcases hz with ⟨b, o, rfl⟩ | ⟨rfl, h0⟩
  rotate_left
  · exact implInOrder_nil ps h0 cap w
  obtain ⟨i0, hi0, hz3⟩ : ∃ i0, Tryz.prog.info? 43 = some i0 ∧ (i0.zero, i0.size, i0.bytes) = (some (.agg #[.int .i64 0, .int .i64 0, .int .i64 0]), 3, 24) := by
    have := infoPart
    cases hh : Tryz.prog.info? 43 with
    | none => rw [hh] at this; simp at this
    | some i0 => rw [hh] at this; exact ⟨i0, rfl, by simpa using this⟩
  have hcl := AnyE.slices_Clone Tryz.cloneP i0 (.agg #[.int .i64 0, .int .i64 0, .int .i64 0]) 3 24 hi0 (by simpa using congrArg Prod.fst hz3) (by simpa using congrArg (fun t => t.2.1) hz3) (by simpa using congrArg (fun t => t.2.2) hz3) rfl (by omega) Tryz.sizeOf43 b o ps.length cap (partCells ps) w (partCells_len ps) (by unfold maxLen; omega) (by omega) (cells_parts hp) (partCells_one ps)
  change Calls Tryz.prog 74 _ _ _ at hcl
  have HCL := hide hcl
  clear hcl hi0 hz3 hp
  go_enter Tryz.func35, Tryz.ntmps35
  go_wp2_with fail
  refine HCL.out.mono ?_
  rintro e w1 ⟨v', rfl, how, hne, hb1⟩
  rcases how.2 with ⟨hv, _⟩ | ⟨g, c, cur, rfl, hbg, hg, hnc, hcm, hsz, htk⟩
  · exact absurd hv hne
  have hlt : g < w1.heap.size := by
    rcases Nat.lt_or_ge g w1.heap.size with h | h
    · exact h
    · rw [Array.getElem?_eq_none h] at hg; cases hg
  have eg : ∀ args w, (callFunc 76 args).run Tryz.prog w = .ok (.enter 76 args) w := enters_of Tryz.func76 (by kernel_rfl) rfl
  have hso := AnyQ.slices_SortFunc Tryz.sortP 3 Tryz.isAgg43 Tryz.sizeOf43 encP (fun _ => rfl) (fun x v hv => by simp [encP] at hv; rcases hv with rfl | rfl | rfl <;> rfl) byP swoByP 76 #[] g 0 c ps.toArray w1 eg (cmpLaysP g 0 ps.toArray.size w1) (holds_of_owns hg htk) hlt (by simp; omega)
  change Calls Tryz.prog 75 _ _ _ at hso
  rw [List.size_toArray] at hso
  have HSO := hide hso
  have HH := hide (holds_of_owns (ps := ps) hg htk)
  have HB1 := hide hb1
  clear hso how hne htk hg hsz hb1 eg HCL
  go_wp2_with fail
  refine HSO.out.mono ?_
  rintro e w2 ⟨rfl, d', n, os, hpm, hsd, rfl⟩
  have hsz : d'.size = ps.length := by have := hpm.1; simpa using this
  have HP := hide (show ps.Perm d'.toList by
    have h := perm_of (d := ps.toArray) (d' := d') (by simpa using hpm)
    simpa using h)
  have HS := hide (sorted_of (d := d') (by rw [hsz]; exact hsd))
  have HA := hide (parts_holds (holdsK_sortWorldK_c encP 3 w1 g 0 ps.toArray d' n os HH.out hlt (by simpa using hsz)))
  have HB := hide (HB1.out.trans (below_sort w1 w.heap.size g n d' os hbg HB1.out.size))
  clear hpm hsd HSO
  go_wp2_with fail
  go_ret
  have hl2 : d'.toList.length = ps.length := by simpa using hsz
  exact ⟨some ⟨g, 0, none⟩, c, d'.toList, by first | (rw [hl2]; done) | (simp [hsz]; done) | (simp [hl2]; done), by omega, hcm, HP.out, HS.out, HA.out, HB.out⟩

theorem implTouch_any : TouchDone := fun b o b' o' ps qs cap cap' w _ _ hn hn' hp hq => implTouch_over implInOrder_any (some ⟨b, o, none⟩) (some ⟨b', o', none⟩) ps qs cap cap' w (.inl ⟨b, o, rfl⟩) (.inl ⟨b', o', rfl⟩) hn hn' hp hq
end Go.Proofs.YtncanhbmbjoamaaGreat

/- Bytes that came in. Own work. -/
namespace Go.Proofs.YtncanhbmbjoamaaGreat
open Go.RowKit Go.Joins Go.Deep Go.WideShapes Go.ChangeShapes
set_option maxRecDepth 100000

theorem cellsU8 : Tryz.prog.cellsOf 5 = 1 := by kernel_rfl
theorem slice_cells3 {P : Program} {w : World} {r : Reach} {b0 : Nat} {t e : TypeId} {v : Value} (ht : P.underlying t = some (.slice e)) (hv : Value.okWide P w r b0 t v) : v.cells = #[v] := by
  obtain ⟨a, len, cap, rfl⟩ := okWide_slice ht hv
  rfl

theorem bytes_of_trod {H : Type} {enc : TypeId × Value → H} {w : World} {spare : Nat → Bool} {held : Bool} {v : Value} {d : DataW H} {p : List MemPlace} (hone : v.cells = #[v]) (h : DataW.Trod enc Tryz.prog w 0 spare held 22 v d p) :
    ∃ (a : Option Addr) (cap : Nat) (xs : List Int), v = .slice a xs.length cap ∧ BytesAt w a xs ∧ xs.length ≤ maxLen ∧ Bys xs := by
  obtain ⟨fuel, hm⟩ := h
  rcases open_slice Tryz.underlying22 hm with ⟨hv, _⟩ | ⟨a, len, cap, m, n, D, Pl, hv, _, hlc, hcm, hm', _, hall⟩
  · rw [hone] at hv
    have : v = .slice none 0 0 := by simpa using hv
    subst this
    exact ⟨none, 0, [], rfl, fun k hk => by simp at hk, by simp, fun x hx => by simp at hx⟩
  · rw [hone] at hv
    have : v = .slice (some a) len cap := by simpa using hv
    subst this
    have hlm : len ≤ m := by rw [hm']; split <;> omega
    have hex : ∀ i, i < len → ∃ x : Int, w.cell? ((a.add (i * 1)).add 0) = some (.int .u8 x) ∧ (0 ≤ x ∧ x < 256) := by
      intro i hi
      obtain ⟨cs', hc, ht⟩ := hall i (by omega)
      rw [cellsU8] at hc
      obtain ⟨_, hlen, hcell⟩ := World.cells?_some hc
      obtain ⟨x0, e0, _, w0⟩ := DataW.trod_int Tryz.underlying5 ht
      subst e0
      refine ⟨x0, hcell 0 (by omega), ?_⟩
      simp only [Lit.wf, IntKind.min, IntKind.max, IntKind.bits, IntKind.signed, Bool.and_eq_true] at w0
      simp at w0
      omega
    obtain ⟨xs, hl, hxs⟩ := list_of len hex
    refine ⟨some a, cap, xs, by rw [hl], ?_, by omega, ?_⟩
    · intro k hk
      obtain ⟨b, off, spot⟩ := a
      have h00 := (hxs 0 (by omega)).1
      have hspot : spot = none := by simpa [Addr.add] using World.cell?_spot h00
      subst hspot
      have hk2 := (hxs k hk).1
      simp only [add_plain, Nat.mul_one, Nat.add_zero] at hk2
      exact ⟨b, off, rfl, hk2⟩
    · intro x hx
      obtain ⟨k, hk, rfl⟩ := List.getElem_of_mem hx
      exact (hxs k hk).2
end Go.Proofs.YtncanhbmbjoamaaGreat

/- FnParts. Own work. -/
namespace Go.Proofs.YtncanhbmbjoamaaGreat
open Go.ChangeShapes Go.WideShapes Go.ChangeAt Go.RowKit Go.Joins

theorem own_knob : ownKnob Tryz.prog.godebug = none := by kernel_rfl

set_option maxRecDepth 100000 in
theorem fnParts_lifted (os : Os) (started : os.Started) (H : Type) (enc : TypeId × Value → H) :
    ReturnsInHanded {} Tryz.checked os 3 .any (Rows.fnPartsSpec.pre6 enc Tryz.prog Tryz.f3 Rows.fnPartsRow.domain false) (Rows.fnPartsSpec.post enc Tryz.prog Tryz.f3 false true false false) := by
  refine returnsInHanded_of_change (C := Tryz.checked) own_knob started (by kernel_rfl) Tryz.func3
    (ChangeSpec.witness6 (enc := enc) (C := Tryz.checked) false ⟨#[], #[.slice none 0 0, .slice none 0 0], []⟩ 8 (by kernel_rfl) (by kernel_rfl) (by kernel_rfl) (by kernel_rfl)) ?_
  intro W base args ds gs before hval0 hW hcnd _
  have hval : ∀ (j : Nat) t v, Tryz.f3.params[j]? = some t → args[j]? = some v → Value.okWide Tryz.prog W .any base t v := hval0
  have hW' := hW
  obtain ⟨p, q, hA0, hV, rfl, hfz, hnd⟩ := hW
  have hA : DataW.TrodAll enc Tryz.prog W 0 (fun _ => true) true Tryz.f3.params.toList args.toList ds p := hA0
  rw [Tryz.params3] at hA hval
  obtain ⟨v0, vs0, d0, ds0, p0, q0, hargs, rfl, rfl, h0, r0⟩ := trodAll_cons hA
  obtain ⟨v1, vs1, d1, ds1, p1, q1, rfl, rfl, rfl, h1, r1⟩ := trodAll_cons r0
  obtain ⟨rfl, rfl, rfl⟩ := trodAll_nil r1
  obtain rfl : args = #[v0, v1] := by cases args; simp_all
  obtain ⟨rfl, rfl⟩ := trodVars_none hV
  have lt0 : ∀ x ∈ p0, x.block < W.heap.size := by obtain ⟨m, hm⟩ := h0; exact DataW.trod_lt m _ _ _ hm
  have lt1 : ∀ x ∈ p1, x.block < W.heap.size := by obtain ⟨m, hm⟩ := h1; exact DataW.trod_lt m _ _ _ hm
  obtain ⟨a, cap, code, rfl, hx, hn, hB⟩ := bytes_of_trod (slice_cells3 Tryz.underlying22 (hval 0 22 v0 rfl rfl)) h0
  obtain ⟨z, zc, more, rfl, hz, hn', hB'⟩ := bytes_of_trod (slice_cells3 Tryz.underlying22 (hval 1 22 v1 rfl rfl)) h1
  clear hA0 hval0
  refine (fnParts_walk implInOrder_any a z cap zc code more W hB hB' hn hn' hx hz).mono fun e W' ⟨he, bel⟩ => ?_
  subst he
  exact ⟨_, rfl, _, _, _, [], _, [], hW', trodAll_mk1 (shut_bool Tryz.underlying4 _), (trodAll_cons_mk (Below.trod Tryz.laidOut (by kernel_rfl) (of_decide_eq_true (by kernel_rfl)) h0 bel lt0) (trodAll_cons_mk (Below.trod Tryz.laidOut (by kernel_rfl) (of_decide_eq_true (by kernel_rfl)) h1 bel lt1) trodAll_mk0)), rfl, bel.frame _, fun h => by cases h⟩

theorem fnParts_over : Rows.fnPartsRow.holds Tryz.pinned (OpenSpec.ofChange Rows.fnPartsSpec) :=
  OpenClaim.holds_of_wide 3 Tryz.f3 rfl rfl rfl rfl rfl rfl rfl ⟨rfl, rfl, rfl, rfl, rfl⟩ rfl rfl rfl rfl rfl (by kernel_rfl) Tryz.func3 (by kernel_rfl)
    (of_decide_eq_true (by kernel_rfl)) (by unfold Func.isWrapper; first | (rw [if_pos (by decide +kernel)]; kernel_rfl) | (rw [if_neg (by decide +kernel)]; exact ⟨rfl, rfl⟩))
    (fun os started H enc _ => fnParts_lifted os started H enc)
end Go.Proofs.YtncanhbmbjoamaaGreat

/- FnParts, proved. Own work. -/
namespace Go.Proofs.YtncanhbmbjoamaaGreat
theorem fnParts_holds : Rows.FnPartsSaid := fnParts_over
end Go.Proofs.YtncanhbmbjoamaaGreat

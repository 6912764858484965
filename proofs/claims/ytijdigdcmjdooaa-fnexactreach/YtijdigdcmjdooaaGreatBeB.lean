/- slices.Clone at steps; (layout).longer. Own work. -/
import Derived.Test.YtijdigdcmjdooaaGreatMxBB
import Derived.Test.YtijdigdcmjdooaaGreatMxAV
import Derived.Test.YtijdigdcmjdooaaGreatMxAS
import Derived.Test.YtijdigdcmjdooaaGreatMxAH
import Derived.Test.YtijdigdcmjdooaaGreatMxAR
import Derived.Deep.RegionLaw
namespace Go.Proofs.YtijdigdcmjdooaaGreat
open Go.RowKit Go.Sort
set_option maxHeartbeats 8000000
set_option maxRecDepth 100000

theorem cells_steps {w : World} {b o : Nat} {ps : List (Int × Int)} (h : EndsAt w (some ⟨b, o, none⟩) ps) : ∀ j u, (lieCells ps)[j]? = some u → w.cell? ⟨b, o + j, none⟩ = some u := by
  intro j u hj
  have hl : (lieCells ps).length = ps.length * 2 := by
    clear h hj
    induction ps with
    | nil => rfl
    | cons x l ih =>
      have e : lieCells (x :: l) = .int .i64 x.1 :: .int .i64 x.2 :: lieCells l := rfl
      rw [e]; simp only [List.length_cons, ih]; omega
  have hjl : j < ps.length * 2 := by
    rw [← hl]
    rcases Nat.lt_or_ge j (lieCells ps).length with h | h
    · exact h
    · rw [List.getElem?_eq_none h] at hj; cases hj
  have hk : j / 2 < ps.length := by omega
  obtain ⟨p0, p1⟩ := lieCells_at ps (j / 2) hk
  obtain ⟨b', o', e, h1, h2⟩ := h (j / 2) hk
  obtain ⟨rfl, rfl⟩ : b = b' ∧ o = o' := by simpa using e
  rcases Nat.mod_two_eq_zero_or_one j with hm | hm
  · have hj2 : j = j / 2 * 2 := by omega
    rw [hj2] at hj
    rw [p0] at hj
    cases hj
    rw [show o + j = o + j / 2 * 2 by omega]
    exact h1
  · have hj2 : j = j / 2 * 2 + 1 := by omega
    rw [hj2] at hj
    rw [p1] at hj
    cases hj
    rw [show o + j = o + j / 2 * 2 + 1 by omega]
    exact h2
theorem lieCells_len2 (ps : List (Int × Int)) : (lieCells ps).length = ps.length * 2 := by
  induction ps with
  | nil => rfl
  | cons x l ih =>
    have e : lieCells (x :: l) = .int .i64 x.1 :: .int .i64 x.2 :: lieCells l := rfl
    rw [e]; simp only [List.length_cons, ih]; omega
theorem lieCells_one (ps : List (Int × Int)) : ∀ v ∈ lieCells ps, v.oneCell' = true := by
  intro v hv
  unfold lieCells at hv
  obtain ⟨p, _, hp⟩ := List.mem_flatMap.1 hv
  simp at hp
  rcases hp with rfl | rfl <;> rfl
theorem info_StepC : (Tryz.prog.info? 132).map (fun i => (i.zero, i.size, i.bytes)) = some (some (.agg #[.int .i64 0, .int .i64 0]), 2, 16) := by kernel_rfl
theorem cloneS_any (b o : Nat) (ss : List (Int × Int)) (cap : Nat) (w : World) (hl : ss.length ≤ 1000) (hp : EndsAt w (some ⟨b, o, none⟩) ss) :
    Calls Tryz.prog 128 #[.slice (some ⟨b, o, none⟩) ss.length cap] w fun e w' => ∃ v, e = .returned v ∧ w'.ownsRow w.heap.size 132 2 v ss.length (lieCells ss) ∧ Below w.heap.size w w' := by
  obtain ⟨i0, hi0, hz0, hz1, hz2⟩ := info_parts info_StepC
  have hcl := AnyE.slices_Clone Tryz.cloneS i0 (.agg #[.int .i64 0, .int .i64 0]) 2 16 hi0 hz0 hz1 hz2 rfl (by omega) Tryz.sizeOf132 b o ss.length cap (lieCells ss) w (lieCells_len2 ss) (by unfold maxLen; omega) (by omega) (cells_steps hp) (lieCells_one ss)
  change Calls Tryz.prog 128 _ _ _ at hcl
  refine hcl.mono ?_
  rintro e w1 ⟨v', rfl, how, _, hb1⟩
  exact ⟨v', rfl, how, hb1⟩
theorem steps_of_own {w : World} {base : Nat} {v : Value} {ss : List (Int × Int)} (h : w.ownsRow base 132 2 v ss.length (lieCells ss)) : ∃ z zc, v = .slice z ss.length zc ∧ StRow w z ss := by
  obtain ⟨z, zc, rfl, hE⟩ := lies_shape h
  refine ⟨z, zc, rfl, hE, fun b o e => ?_⟩
  rcases h.2 with ⟨h', _⟩ | ⟨g, cap, cur, hv, _, hg, _⟩
  · have : z = none := by simp at h'; exact h'.1
    rw [this] at e; cases e
  · have : z = some ⟨g, 0, none⟩ := by simp at hv; exact hv.1
    rw [this] at e
    have hbg : g = b := by simp at e; exact e.1
    subst hbg
    exact ⟨cur, _, hg⟩
theorem lieCells_add2 (ss : List (Int × Int)) (s : Int × Int) : lieCells (ss ++ [s]) = lieCells ss ++ [.int .i64 s.1, .int .i64 s.2] := by simp [lieCells]
/-- The way that goes on over an end. -/
def goW (far : Int) (ss : List (Int × Int)) (e : Int × Int) : Wy := ⟨far, ss ++ [stepOf e]⟩
theorem enter_step {N : Nt} {e : Int × Int} : ((enterP N e).1, (enterP N e).2.2) = stepOf e := by
  unfold enterP stepOf
  split <;> rfl
/-- The boxes of longer. -/
structure LgB (w wr : World) (v0 v1 v2 : Value) (tf : Int) (vt : Value) (q at' wy : Int) : Prop where
  n0 : wr.cell? ⟨w.heap.size, 0, none⟩ = some v0
  n1 : wr.cell? ⟨w.heap.size, 1, none⟩ = some v1
  n2 : wr.cell? ⟨w.heap.size, 2, none⟩ = some v2
  t0 : wr.cell? ⟨w.heap.size + 1, 0, none⟩ = some (.int .i64 tf)
  t1 : wr.cell? ⟨w.heap.size + 1, 1, none⟩ = some vt
  s0 : wr.cell? ⟨w.heap.size + 1 + 1, 0, none⟩ = some (.int .i64 q)
  s1 : wr.cell? ⟨w.heap.size + 1 + 1, 1, none⟩ = some (.int .i64 at')
  s2 : wr.cell? ⟨w.heap.size + 1 + 1, 2, none⟩ = some (.int .i64 wy)
  below : Below w.heap.size w wr
theorem LgB.later {w w1 w2 : World} {v0 v1 v2 vt : Value} {tf q at' wy : Int} (h : LgB w w1 v0 v1 v2 tf vt q at' wy) (hb : Below w1.heap.size w1 w2) : LgB w w2 v0 v1 v2 tf vt q at' wy :=
  ⟨cell_later' hb h.n0, cell_later' hb h.n1, cell_later' hb h.n2, cell_later' hb h.t0, cell_later' hb h.t1, cell_later' hb h.s0, cell_later' hb h.s1, cell_later' hb h.s2, h.below.trans (hb.mono h.below.size)⟩
theorem LgB.grown {w w1 w2 : World} {v0 v1 v2 vt : Value} {tf q at' wy : Int} {row : Option Nat} (h : LgB w w1 v0 v1 v2 tf vt q at' wy) (hg : w1.grownBy w2 row) (hrow : ∀ g, row = some g → w.heap.size + 1 + 1 + 1 ≤ g) : LgB w w2 v0 v1 v2 tf vt q at' wy := by
  have hA := cell_lt h.s0
  have hne : ∀ b, b ≤ w.heap.size + 1 + 1 → some b ≠ row := fun b hb e => by have := hrow b e.symm; omega
  have e : ∀ b i, b ≤ w.heap.size + 1 + 1 → w2.cell? ⟨b, i, none⟩ = w1.cell? ⟨b, i, none⟩ := fun b i hb => hg.cell_far ⟨b, i, none⟩ (by show b < w1.heap.size; omega) (hne b hb)
  exact ⟨(e _ _ (by omega)).trans h.n0, (e _ _ (by omega)).trans h.n1, (e _ _ (by omega)).trans h.n2, (e _ _ (by omega)).trans h.t0, (e _ _ (by omega)).trans h.t1, (e _ _ (by omega)).trans h.s0, (e _ _ (by omega)).trans h.s1, (e _ _ (by omega)).trans h.s2, h.below.grown hg h.below.size (fun k e => by have := hrow k e; omega)⟩

theorem steps_of_own2 {w : World} {base g cp p1 : Nat} {x y : Int} {ts : List (Int × Int)} (h : w.ownsRow base 132 2 (.slice (some ⟨g, 0, none⟩) (ts.length + 1) cp) (ts.length + 1) (lieCells ts ++ [.int .i64 x, .int .i64 y])) (_ : p1 = 0) : StRow w (some ⟨g, 0, none⟩) (ts ++ [(x, y)]) := by
  have h' : w.ownsRow base 132 2 (.slice (some ⟨g, 0, none⟩) (ts ++ [(x, y)]).length cp) (ts ++ [(x, y)]).length (lieCells (ts ++ [(x, y)])) := by
    rw [lieCells_add2, List.length_append]
    exact h
  obtain ⟨z, zc, e, hS⟩ := steps_of_own h'
  have : z = some ⟨g, 0, none⟩ := by simp at e; exact e.1.symm
  rw [this] at hS
  exact hS
theorem nxP_len (N : Nt) (e : Int × Int) : (nxP N e).length ≤ 2 := by
  unfold nxP
  split
  · exact acr_len _ _
  · simp
theorem longer_any (a a' tz : Option Addr) (N : Nt) (cap cap' m n tc : Nat) (tf : Int) (ts : List (Int × Int)) (q at' wy : Int) (w : World) (hright : netOk N = (0, 0)) (hn : N.pcs.length ≤ 1048576) (hs : spotP N q at' wy = true) (htf : 0 ≤ tf ∧ tf ≤ 100000000000) (htl : 0 < ts.length ∧ ts.length ≤ 900) (hP : PcsAt w a N.pcs) (hJ : JtsAt w a' N.jts) (hSE : SE w m n (seatTo N.jts N.jts.length)) (hT : EndsAt w tz ts) :
    Calls Tryz.prog 100 #[.agg #[.slice a N.pcs.length cap, .slice a' N.jts.length cap', .map (some m)], .agg #[.int .i64 tf, .slice tz ts.length tc], .agg #[.int .i64 q, .int .i64 at', .int .i64 wy]] w fun e w' =>
    ∃ v l, e = .returned v ∧ w'.ownsRow w.heap.size 101 2 v (nxP N (headP q wy)).length (itCells l) ∧ l.map It.y = (nxP N (headP q wy)).map (goW (tf + roomP N q at' wy) ts) ∧ (∀ i ∈ l, StRow w' i.z i.y.ss ∧ ∃ b, i.z = some ⟨b, 0, none⟩) ∧ Below w.heap.size w w' := by
  obtain ⟨i0, hi, hz0, hz1, hz2⟩ := info_parts info_StepC
  obtain ⟨i1, hj, hy0, hy1, hy2⟩ := info_parts infoTrail
  have HI := hide hi
  have HZ0 := hide hz0
  have HZ1 := hide hz1
  have HZ2 := hide hz2
  have HI' := hide hj
  have HY0 := hide hy0
  have HY1 := hide hy1
  have HY2 := hide hy2
  have HP := hide hP
  have HJ := hide hJ
  have HSE := hide hSE
  have HT := hide hT
  have HR := hide hright
  have HS := hide hs
  have hstep : stepOk N.pcs.length (q, wy) = true := by
    have h := hs
    simp only [spotP, Bool.and_eq_true] at h
    simp only [stepOk, Bool.and_eq_true]
    exact h.1
  have HST := hide hstep
  have HIN := hide (show ∀ e ∈ nxP N (headP q wy), endOk N.pcs.length e = true from fun e he => (grN N hright).ok _ e he)
  generalize hL : nxP N (headP q wy) = L at HIN ⊢
  have HL := hide hL
  clear hi hz0 hz1 hz2 hj hy0 hy1 hy2 hP hJ hSE hT hright hs hstep hL
  have HB0 : Hid (LgB w (((w.alloc (.cells #[.slice a N.pcs.length cap, .slice a' N.jts.length cap', .map (some m)] 70)).alloc (.cells #[.int .i64 tf, .slice tz ts.length tc] 101)).alloc (.cells #[.int .i64 q, .int .i64 at', .int .i64 wy] 29)) (.slice a N.pcs.length cap) (.slice a' N.jts.length cap') (.map (some m)) tf (.slice tz ts.length tc) q at' wy) :=
    ⟨by simp [go_sem], by simp [go_sem], by simp [go_sem], by simp [go_sem], by simp [go_sem], by simp [go_sem], by simp [go_sem], by simp [go_sem], (((Below.refl _ _).alloc (Nat.le_refl _) _).alloc (by simp) _).alloc (by simp; omega) _⟩
  go_enter Tryz.func100, Tryz.ntmps100
  go_upto_region 2 with fail
  generalize (((w.alloc (.cells #[.slice a N.pcs.length cap, .slice a' N.jts.length cap', .map (some m)] 70)).alloc (.cells #[.int .i64 tf, .slice tz ts.length tc] 101)).alloc (.cells #[.int .i64 q, .int .i64 at', .int .i64 wy] 29)) = w1 at *
  have n0 := HB0.out.n0
  have n1 := HB0.out.n1
  have n2 := HB0.out.n2
  have s0 := HB0.out.s0
  have s1 := HB0.out.s1
  have s2 := HB0.out.s2
  go_wp2_with fail
  refine (beyond_any a a' N cap cap' m n q at' wy _ HR.out hn HST.out (HP.out.later HB0.out.below) (HJ.out.later HB0.out.below) (HSE.out.of_block (HB0.out.below.block m HSE.out.lt))).mono ?_
  rintro e w2 ⟨vb, rfl, hob, hb2⟩
  rw [HL.out, ← List.length_map (enterP N)] at hob
  obtain ⟨zb, zbc, rfl, hPB⟩ : ∃ zb zbc, vb = .slice zb (L.map (enterP N)).length zbc ∧ PartsAt w2 zb (L.map (enterP N)) := by
    rcases parts_of_owns hob with ⟨rfl, h0⟩ | ⟨b, cap, rfl, _, _, hP', _⟩
    · exact ⟨none, 0, by rw [h0]; rfl, by rw [h0]; exact fun k hk => by simp at hk⟩
    · exact ⟨_, cap, rfl, hP'⟩
  rw [List.length_map]
  have HPB := hide hPB
  have HB2 := hide (HB0.out.later hb2)
  have hl2 : L.length ≤ 2 := by rw [← HL.out]; exact nxP_len _ _
  have hw2 := cell_lt HB2.out.s0
  clear hob hPB hb2 HB0 n0 n1 n2 s0 s1 s2
  go_wp2_with fail
  go_loopw [7, 9, 10, 15] (fun s7 _ _ i wr => ∃ (k : Nat) (l : List It), k ≤ L.length ∧ i = .int .i64 k ∧ Hid (LgB w wr (.slice a N.pcs.length cap) (.slice a' N.jts.length cap') (.map (some m)) tf (.slice tz ts.length tc) q at' wy) ∧ Hid (wr.ownsRow w2.heap.size 101 2 s7 k (itCells l)) ∧ Hid (l.map It.y = (L.take k).map (goW (tf + roomP N q at' wy) ts)) ∧ Hid (∀ i ∈ l, StRow wr i.z i.y.ss ∧ ∃ b, i.z = some ⟨b, 0, none⟩) ∧ Hid (Below w2.heap.size w2 wr)) (fun _ _ _ i _ => L.length - (intOf i).toNat)
  case atStart => exact ⟨0, [], Nat.zero_le _, rfl, HB2.out, World.ownsRow_nil _ _ _ _, rfl, (fun i hi => by simp at hi), Below.refl _ _⟩
  case round =>
    obtain ⟨k, l, hk, rfl, HLG, HOW, HMP, HSR, HBR⟩ := hrel
    by_cases hlt : k < L.length
    · have hki : (k : Int) < (L.length : Int) := by omega
      obtain ⟨b, off, rfl, e0, e1, e2⟩ := (PartsAt.later HPB.out HBR.out) k (by simpa using hlt)
      simp only [List.getElem_map] at e0 e1 e2
      have HTK := hide (show (L.take (k + 1)).map (goW (tf + roomP N q at' wy) ts) = (L.take k).map (goW (tf + roomP N q at' wy) ts) ++ [goW (tf + roomP N q at' wy) ts L[k]] by rw [List.take_succ_eq_append_getElem hlt, List.map_append]; rfl)
      have HEN := hide (enter_step (N := N) (e := L[k]))
      generalize enterP N L[k] = sp at *
      obtain ⟨p1, p2, p3⟩ := sp
      dsimp only at *
      have hbl := cell_lt e0
      have HA := hide (HLG.out.later ((Below.refl wr.heap.size wr).alloc (Nat.le_refl _) (.cells #[.int .i64 p1, .int .i64 p2, .int .i64 p3] 29)))
      have HOA := hide (owns_later' HOW.out ((Below.refl wr.heap.size wr).alloc (Nat.le_refl _) (.cells #[.int .i64 p1, .int .i64 p2, .int .i64 p3] 29)))
      have hAA := (Below.refl wr.heap.size wr).alloc (Nat.le_refl _) (.cells #[.int .i64 p1, .int .i64 p2, .int .i64 p3] 29)
      have HSA := hide (fun i hi => And.intro ((HSR.out i hi).1.later hAA) (HSR.out i hi).2)
      have HBA := hide (HBR.out.trans (hAA.mono HBR.out.size))
      have x0 := new_cell wr #[.int .i64 p1, .int .i64 p2, .int .i64 p3] 29 0 _ rfl
      have x1 := new_cell wr #[.int .i64 p1, .int .i64 p2, .int .i64 p3] 29 1 _ rfl
      have x2 := new_cell wr #[.int .i64 p1, .int .i64 p2, .int .i64 p3] 29 2 _ rfl
      clear hAA HLG HOW HSR HBR
      go_upto_region 5 with fail
      clear e0 e1 e2
      generalize wr.alloc (.cells #[.int .i64 p1, .int .i64 p2, .int .i64 p3] 29) = w3 at *
      generalize wr.heap.size = bI at *
      obtain ⟨tb, tof, rfl, _, _⟩ := HT.out 0 htl.1
      have t1 := HA.out.t1
      have hs3 := HBA.out.size
      have hx3 := cell_lt x0
      have htb1 := cell_lt t1
      have hml : ts.length + 1 ≤ maxLen := by unfold maxLen; omega
      have h3 : Below w3.heap.size w3 w3.drew := (Below.refl _ _).drew
      have HT3 := hide (HT.out.later HA.out.below)
      have hst : (p1, p3) = stepOf L[k] := HEN.out
      have HSTO := hide hst
      go_cut [10, 15] from 15 to 37 (fun s10 s15 wx => s15 = .int .i64 k ∧ ∃ g5 zc, s10 = .slice (some ⟨g5, 0, none⟩) (ts.length + 1) zc ∧ Hid (StRow wx (some ⟨g5, 0, none⟩) (ts ++ [(p1, p3)])) ∧ Hid (Below w3.heap.size w3 wx))
      case first =>
        go_region_law (first
          | (refine step_append_lies _ (by rfl) _ _ _ (by rfl) w3.heap.size 132 i0 _ 2 16 Tryz.underlying34 HI.out HZ0.out HZ1.out HZ2.out rfl (by omega) vC ts.length (lieCells ts) (by rfl) (HOS.out.alloc _) ⟨_, 0, none⟩ 1 1 [.int .i64 p1, .int .i64 p3] (by rfl) (by rfl) (World.news_of_block (heap_alloc_new _ _)) (by simp [Value.oneCell']) (by omega) hml (by omega) (by have := HBS.out.size; simp; omega) _ rfl ?_; intro g2 cp2 w7 hown2 hgrow2 _ _; have HOW2 := hide hown2; have HBG := hide ((HBS.out.alloc HBS.out.size _).grown hgrow2 (by have := HBS.out.size; simp; omega) (fun g e => (HOS.out.lt g e).1)))
          | (go_simp; go_at_call 128; refine (cloneS_any tb tof ts tc _ (by omega) (HT3.out.later h3)).mono ?_; rintro e wC ⟨vC, rfl, hoC, hbC⟩; have HOC := hide (owns_low hoC (show w3.heap.size ≤ w3.drew.heap.size from h3.size)); have HBC := hide (h3.trans hbC); have y0 := cell_later' HBC.out x0; have y1 := cell_later' HBC.out x1; have y2 := cell_later' HBC.out x2; clear hoC hbC)
          | (go_simp; go_at_call 67; refine (spotStep_any _ _ _ _).mono ?_; rintro e wS ⟨rfl, hbS⟩; have HOS := hide (owns_later' HOC.out hbS); have HBS := hide (HBC.out.trans (hbS.mono HBC.out.size)); clear hbS))
        all_goals
          have HSR2 := hide (steps_of_own2 (p1 := 0) HOW2.out rfl)
          go_wp2_with fail
          go_meet
          case rel => exact ⟨rfl, g2, cp2, rfl, HSR2, HBG⟩
      case rest =>
        obtain ⟨rfl, g5, zc5, rfl, HS5, HB5⟩ := hcut
        rename World => w5
        have HA5 := hide (HA.out.later HB5.out)
        have HOA5 := hide (owns_later' HOA.out HB5.out)
        have HSA5 := hide (fun i hi => And.intro ((HSA.out i hi).1.later HB5.out) (HSA.out i hi).2)
        have HBA5 := hide (HBA.out.trans (HB5.out.mono HBA.out.size))
        obtain ⟨kq, hkq, hkl⟩ : ∃ kq : Nat, q = (kq : Int) ∧ kq < N.pcs.length := by
          have h := HS.out
          simp only [spotP, inR, Bool.and_eq_true, decide_eq_true_eq] at h
          exact ⟨q.toNat, by omega, by omega⟩
        have hlen := lenAt_pos HR.out q (by omega) (by omega)
        have hat : 0 ≤ at' ∧ at' ≤ lenAt N q := by
          have h := HS.out
          simp only [spotP, inR, Bool.and_eq_true, decide_eq_true_eq] at h
          omega
        have hrm : 0 ≤ roomP N q at' wy ∧ roomP N q at' wy ≤ 10000000 := by
          unfold roomP
          split <;> omega
        have hwrap : IntKind.i64.wrap (tf + roomP N q at' wy) = tf + roomP N q at' wy := by rw [IntKind.wrap_i64]; omega
        have HWY := hide (spot_way HS.out)
        have HLA := hide (lenAt_nat N kq hkl)
        subst hkq
        rw [HLA.out] at hlen hat
        have t0 := HA5.out.t0
        have n0 := HA5.out.n0
        have n1 := HA5.out.n1
        have n2 := HA5.out.n2
        have s0 := HA5.out.s0
        have s1 := HA5.out.s1
        have s2 := HA5.out.s2
        have h5 : Below w5.heap.size w5 w5.drew := (Below.refl _ _).drew
        have hml2 : k + 1 ≤ maxLen := by unfold maxLen; omega
        have hs5 := HB5.out.size
        have hws5 := cell_lt s0
        clear x0 x1 x2 t1 HA HOA HSA HBA HB5 h3 hst
        go_upto_region 6 with fail
        go_region_law (first
          | (refine step_append_lies _ (by rfl) _ _ _ (by rfl) w2.heap.size 101 i1 _ 2 32 Tryz.underlying169 HI'.out HY0.out HY1.out HY2.out rfl (by omega) u7 k (itCells l) (by rfl) (HO6.out.alloc _) ⟨_, 0, none⟩ 1 1 [.int .i64 (tf + roomP N kq at' wy), .slice (some ⟨g5, 0, none⟩) (ts.length + 1) zc5] (by rfl) (by rfl) (World.news_of_block (heap_alloc_new _ _)) (by simp [Value.oneCell']) (by omega) hml2 (by omega) (by have := HB6.out.size; simp; omega) _ rfl ?_; intro g2 cp2 w7 hown2 hgrow2 _ _; have HOW2 := hide hown2; have HGR := hide hgrow2)
          | (go_simp; go_at_call 58; refine (layAhead_any a a' N cap cap' m kq at' wy _ hkl HWY.out (by omega) (by omega) (HP.out.later (HA5.out.below.trans (h5.mono HA5.out.below.size)))).mono ?_; rintro e w6 ⟨rfl, hb6⟩; have hb56 := h5.trans hb6; have HA6 := hide (HA5.out.later hb56); have t6 := HA6.out.t0; have HO6 := hide (owns_later' HOA5.out hb56); have HS6 := hide (fun i hi => And.intro ((HSA5.out i hi).1.later hb56) (HSA5.out i hi).2); have HS56 := hide (HS5.out.later hb56); have HB6 := hide (HBA5.out.trans (hb56.mono HBA5.out.size)); clear hb6 hb56))
        all_goals
          have hA6 := (Below.refl w6.heap.size w6).alloc (Nat.le_refl _) (.cells #[.int .i64 (tf + roomP N kq at' wy), .slice (some ⟨g5, 0, none⟩) (ts.length + 1) zc5] 101)
          have HLT := hide (fun g h => (HO6.out.lt g h).1)
          have hB6s := HB6.out.size
          have HLG7 := hide ((HA6.out.later hA6).grown HGR.out (fun g e => by have := HLT.out g e; omega))
          have HB7 := hide ((HB6.out.trans (hA6.mono HB6.out.size)).grown HGR.out (Nat.le_trans hB6s hA6.size) (fun g e => HLT.out g e))
          have HK7 := hide (show Kept2 (w6.alloc (.cells #[.int .i64 (tf + roomP N kq at' wy), .slice (some ⟨g5, 0, none⟩) (ts.length + 1) zc5] 101)).heap.size u7.ownBlock _ w7 from ⟨HGR.out.os, HGR.out.tape, HGR.out.output, HGR.out.size, fun j hj _ ho => HGR.out.block j hj ho⟩)
          have HOT := hide (show OwnT (w6.alloc (.cells #[.int .i64 (tf + roomP N kq at' wy), .slice (some ⟨g5, 0, none⟩) (ts.length + 1) zc5] 101)) u7.ownBlock from fun g hg cur fz e => by
            rcases (HO6.out.alloc (.cells #[.int .i64 (tf + roomP N kq at' wy), .slice (some ⟨g5, 0, none⟩) (ts.length + 1) zc5] 101)).2 with ⟨rfl, _⟩ | ⟨g', cap', cur', rfl, _, hc, _⟩
            · cases hg
            · have : g' = g := by simpa [Value.ownBlock] using hg
              subst this
              rw [hc] at e
              simp at e)
          have HNB := hide (show ∀ cur fz, (w6.alloc (.cells #[.int .i64 (tf + roomP N kq at' wy), .slice (some ⟨g5, 0, none⟩) (ts.length + 1) zc5] 101)).heap[(w6.alloc (.cells #[.int .i64 (tf + roomP N kq at' wy), .slice (some ⟨g5, 0, none⟩) (ts.length + 1) zc5] 101)).heap.size]? ≠ some (.cells cur 132 fz) from fun cur fz e => by
            rw [Array.getElem?_eq_none (Nat.le_refl _)] at e
            cases e)
          have HST7 := hide (show ∀ i ∈ l ++ [(⟨⟨tf + roomP N kq at' wy, ts ++ [(p1, p3)]⟩, (some ⟨g5, 0, none⟩), zc5⟩ : It)], StRow w7 i.z i.y.ss ∧ ∃ b, i.z = some ⟨b, 0, none⟩ from fun i hi => by
            rcases List.mem_append.1 hi with hi | hi
            · exact ⟨((HS6.out i hi).1.later hA6).kept2 HK7.out HNB.out HOT.out, (HS6.out i hi).2⟩
            · have : i = ⟨⟨tf + roomP N kq at' wy, ts ++ [(p1, p3)]⟩, (some ⟨g5, 0, none⟩), zc5⟩ := by simpa using hi
              subst this
              exact ⟨(HS56.out.later hA6).kept2 HK7.out HNB.out HOT.out, g5, rfl⟩)
          have HMP7 := hide (show (l ++ [(⟨⟨tf + roomP N kq at' wy, ts ++ [(p1, p3)]⟩, (some ⟨g5, 0, none⟩), zc5⟩ : It)]).map It.y = (L.take (k + 1)).map (goW (tf + roomP N kq at' wy) ts) by
            rw [List.map_append, HMP.out, HTK.out, goW, ← HSTO.out]
            rfl)
          clear hA6
          go_wp2_with fail
          refine ⟨⟨k + 1, l ++ [(⟨⟨tf + roomP N kq at' wy, ts ++ [(p1, p3)]⟩, (some ⟨g5, 0, none⟩), zc5⟩ : It)], by omega, by go_num, HLG7, ?_, HMP7, HST7, HB7⟩, by simp [intOf]; omega⟩
          show World.ownsRow _ _ _ _ _ _ _
          rw [itCells_add]
          simp only [List.length_append, List.length_singleton]
          exact HOW2.out
    · have e : k = L.length := by omega
      subst e
      go_wp2_with fail
      go_ret
      have hsz := HB2.out.below.size
      exact ⟨_, l, rfl, owns_low HOW.out hsz, by rw [HMP.out, List.take_of_length_le (Nat.le_refl _)], HSR.out, HLG.out.below⟩
end Go.Proofs.YtijdigdcmjdooaaGreat

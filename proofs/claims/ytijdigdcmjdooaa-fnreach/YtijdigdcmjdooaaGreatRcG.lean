/- (*rounds).goRound. Own work (written by gen_rcg.py). -/
import Derived.Test.YtijdigdcmjdooaaGreatMxBD
import Derived.Test.YtijdigdcmjdooaaGreatMxAZ
import Derived.Test.YtijdigdcmjdooaaGreatMxBC
namespace Go.Proofs.YtijdigdcmjdooaaGreat
open Go.RowKit Go.Maps Go.Joins Go.Sort
set_option maxHeartbeats 8000000
set_option maxRecDepth 100000

theorem RS.beside {N : Nt} {w0 wr wr' : World} {v0 v1 : Value} {m nS bR mT nT : Nat} {dv : Value} {num : Int} {out : List (Int × Int × Int)} {line : List Dv} (h : RS N w0 wr v0 v1 m nS bR mT nT dv num out line) {b : Nat} (hg : wr.grownBy wr' (some b)) (h0 : w0.heap.size ≤ b) (h1 : bR ≠ b) (h2 : mT ≠ b) (h3 : m ≠ b) (h4 : dv.ownBlock ≠ some b) : RS N w0 wr' v0 v1 m nS bR mT nT dv num out line :=
  ⟨h.below.grown hg h.below.size (fun k e => by have := Option.some.inj e; omega), h.lo, h.ne, (hg.block bR h.bl (fun e => h1 (Option.some.inj e))).trans h.box, h.seats.of_block (hg.block m h.seats.lt (fun e => h3 (Option.some.inj e))), h.tm.of_block (hg.block mT h.tm.lt (fun e => h2 (Option.some.inj e))), h.own.kept hg (.inr h4)⟩
/-- Between two drives of a round. -/
structure GI (N : Nt) (w0 wb wr : World) (v0 v1 : Value) (m nS bR mT mC : Nat) (num : Int) (nT : Nat) (out : List (Int × Int × Int)) (dv : Value) (xs : List Dv) : Prop where
  ex : ∃ nT' seen nC, RS N w0 wr v0 v1 m nS bR mT nT' dv num (runR N (out, []) xs).1 (runR N (out, []) xs).2 ∧ CM wr mC nC seen ∧ SeenI N seen (runR N (out, []) xs) ∧ nC ≤ xs.length ∧ nT' ≤ nT + xs.length
  keep : ∀ k, k < wb.heap.size → k ≠ bR → k ≠ mT → k ≠ mC → wr.heap[k]? = wb.heap[k]?
  size : wb.heap.size ≤ wr.heap.size
  new : ∀ g, dv.ownBlock = some g → wb.heap.size ≤ g
section
variable {N : Nt} {w0 wb wr wr' : World} {v0 v1 : Value} {m nS bR mT mC : Nat} {num : Int} {nT : Nat} {out : List (Int × Int × Int)} {dv : Value} {xs : List Dv}
theorem GI.later (h : GI N w0 wb wr v0 v1 m nS bR mT mC num nT out dv xs) (hb : Below wr.heap.size wr wr') : GI N w0 wb wr' v0 v1 m nS bR mT mC num nT out dv xs := by
  obtain ⟨⟨nT', seen, nC, h1, h2, h3⟩, h4, h5, h6⟩ := h
  exact ⟨⟨nT', seen, nC, h1.later hb, h2.of_block (hb.block mC h2.lt), h3⟩, fun k hk a b c => (hb.block k (Nat.lt_of_lt_of_le hk h5)).trans (h4 k hk a b c), Nat.le_trans h5 hb.size, h6⟩
theorem GI.cell (h : GI N w0 wb wr v0 v1 m nS bR mT mC num nT out dv xs) {b o : Nat} {v : Value} (hB : b ≠ bR) (hM : b ≠ mT) (hC : b ≠ mC) (hc : wb.cell? ⟨b, o, none⟩ = some v) : wr.cell? ⟨b, o, none⟩ = some v := by
  rw [World.cell?_of_block (a := ⟨b, o, none⟩) (h.keep b (cell_lt hc) hB hM hC)]; exact hc
theorem ownC {w : World} {b n : Nat} {seen : List Dv} (hC : CM w b n seen) {base : Nat} {e : TypeId} {size : Nat} {v : Value} {k : Nat} {ys : List Value} (h : w.ownsRow base e size v k ys) : v.ownBlock ≠ some b := by
  intro e
  obtain ⟨cur, hc⟩ := owns_cells h e
  obtain ⟨D, f, ⟨es, clock, hb, _⟩, _⟩ := hC
  rw [hb] at hc
  cases hc
theorem comeR_step {seen : List Dv} {st} (h : SeenI N seen st) {x : Dv} (hx : x ∉ seen) : comeR N st x = stepR N st x := by
  unfold comeR
  split
  · rename_i he; rw [step_end he]
  · rename_i he; rw [h.new_go hx (by simpa using he)]
/-- The drive had come. -/
theorem GI.old (h : GI N w0 wb wr v0 v1 m nS bR mT mC num nT out dv xs) {nT' nC seen} (hR : RS N w0 wr v0 v1 m nS bR mT nT' dv num (runR N (out, []) xs).1 (runR N (out, []) xs).2) (hC0 : CM wr mC nC seen) (hS : SeenI N seen (runR N (out, []) xs)) (hnT : nT' ≤ nT + xs.length) (hnC : nC ≤ xs.length) {x : Dv} (hx : x ∈ seen) (hg : wr.grownBy wr' (some mC)) (hC : CM wr' mC (nC + 1) (x :: seen)) (h0 : w0.heap.size ≤ mC) (hlt : bR < mC ∧ mT < mC ∧ m < mC) : GI N w0 wb wr' v0 v1 m nS bR mT mC num nT out dv (xs ++ [x]) := by
  refine ⟨⟨nT', x :: seen, nC + 1, ?_, hC, ?_, by simp; omega, by simp; omega⟩, fun k hk a b c => (hg.block k (Nat.lt_of_lt_of_le hk h.size) (fun e => c (Option.some.inj e))).trans (h.keep k hk a b c), Nat.le_trans h.size hg.size, h.new⟩
  · rw [runR_snoc, hS.old hx]
    exact hR.beside hg h0 (by omega) (by omega) (by omega) (ownC hC0 hR.own)
  · rw [runR_snoc]
    exact hS.step x
/-- The drive comes. -/
theorem GI.come {w2 : World} {dv' : Value} {x : Dv} (h : GI N w0 wb wr v0 v1 m nS bR mT mC num nT out dv xs) {nT' nT2 nC seen} (hR : RS N w0 w2 v0 v1 m nS bR mT nT2 dv' num (comeR N (runR N (out, []) xs) x).1 (comeR N (runR N (out, []) xs) x).2) (hk : Kept3 bR mT dv.ownBlock wr w2) (hn : NewOwn wr dv.ownBlock dv'.ownBlock) (hC0 : CM w2 mC nC seen) (hS : SeenI N seen (runR N (out, []) xs)) (hnT : nT' ≤ nT + xs.length) (hn2 : nT2 ≤ nT' + 1) (hnC : nC ≤ xs.length) (hx : x ∉ seen) (hg : w2.grownBy wr' (some mC)) (hC : CM wr' mC (nC + 1) (x :: seen)) (h0 : w0.heap.size ≤ mC) (hlt : bR < mC ∧ mT < mC ∧ m < mC) : GI N w0 wb wr' v0 v1 m nS bR mT mC num nT out dv' (xs ++ [x]) := by
  refine ⟨⟨nT2, x :: seen, nC + 1, ?_, hC, ?_, by simp; omega, by simp; omega⟩, fun k hk' a b c => ?_, Nat.le_trans h.size (Nat.le_trans hk.size hg.size), fun g e => ?_⟩
  · rw [runR_snoc, ← comeR_step hS hx]
    exact hR.beside hg h0 (by omega) (by omega) (by omega) (ownC hC0 hR.own)
  · rw [runR_snoc]
    exact hS.step x
  · rw [hg.block k (Nat.lt_of_lt_of_le hk' (Nat.le_trans h.size hk.size)) (fun e => c (Option.some.inj e)), hk.block k (Nat.lt_of_lt_of_le hk' h.size) a b (fun e => by have := h.new k e.symm; omega)]
    exact h.keep k hk' a b c
  · rcases hn with e' | ⟨g', e', hl⟩
    · exact h.new g (e'.symm.trans e)
    · rw [e'] at e
      have := Option.some.inj e
      have := h.size
      omega
/-- What lies behind M stays. -/
theorem Keep3.come {M : Nat} {w5 wx w2 w3 : World} {dv dv' : Value} (h : Keep3 M w5 wx dv) {B T C : Nat} (hk : Kept3 B T dv.ownBlock wx w2) (hn : NewOwn wx dv.ownBlock dv'.ownBlock) (hg : w2.grownBy w3 (some C)) (hB : B < M) (hT : T < M) (hC : C < M) : Keep3 M w5 w3 dv' := by
  refine ⟨Nat.le_trans h.size (Nat.le_trans hk.size hg.size), fun b h1 h2 => ?_, fun g e => ?_⟩
  · rw [hg.block b (Nat.lt_of_lt_of_le h2 (Nat.le_trans h.size hk.size)) (fun e => by have := Option.some.inj e; omega), hk.block b (Nat.lt_of_lt_of_le h2 h.size) (by omega) (by omega) (fun e => by rcases h.off b e.symm with h' | h' <;> omega)]
    exact h.block b h1 h2
  · rcases hn with e' | ⟨g', e', hl⟩
    · exact h.off g (e'.symm.trans e)
    · rw [e'] at e
      have := Option.some.inj e
      have := h.size
      exact .inr (by omega)
theorem Keep3.beside {M : Nat} {w5 wx w3 : World} {dv : Value} (h : Keep3 M w5 wx dv) {C : Nat} (hg : wx.grownBy w3 (some C)) (hC : C < M) : Keep3 M w5 w3 dv :=
  ⟨Nat.le_trans h.size hg.size, fun b h1 h2 => (hg.block b (Nat.lt_of_lt_of_le h2 h.size) (fun e => by have := Option.some.inj e; omega)).trans (h.block b h1 h2), h.off⟩
end

theorem goRound_any {N : Nt} {w0 : World} (a a' : Option Addr) (cap cap' : Nat) {m nS bR mT nT : Nat} {dv : Value} {num : Int} {out : List (Int × Int × Int)} {line : List Dv} {F : Int} (w : World) (hr : netOk N = (0, 0)) (hF : F ≤ 1000000) (hG : GoI N F out line) (hP : PcsAt w0 a N.pcs) (hJ : JtsAt w0 a' N.jts)
    (h : RS N w0 w (.slice a N.pcs.length cap) (.slice a' N.jts.length cap') m nS bR mT nT dv num out line) (hnT : nT ≤ 100000000) (hll : line.length ≤ 1000) (hnum : 0 ≤ num ∧ num ≤ 1000000) :
    Calls Tryz.prog 30 #[.pointer (some ⟨bR, 0, none⟩)] w fun e w' => e = .returned (.tuple #[]) ∧ ∃ dv' nT', RS N w0 w' (.slice a N.pcs.length cap) (.slice a' N.jts.length cap') m nS bR mT nT' dv' (num + 1) (roundR N out line).1 (roundR N out line).2 ∧ nT' ≤ nT + 2000 := by
  have hpl : N.pcs.length ≤ 1048576 := by
    have a3 := (right_facts hr).1
    simp only [sizeBad, Bool.or_eq_false_iff, decide_eq_false_iff_not] at a3
    omega
  have HR := hide hr
  have HG := hide hG
  have HP := hide hP
  have HJ := hide hJ
  obtain ⟨_, _, _, _, c4, _⟩ := h.cells
  have hbl := h.bl
  have f4 := h.free 4
  obtain ⟨z, c, rfl⟩ := dvs_form h.own
  have HN1 := hide (h.setDrives (dv' := .slice none 0 0) (line' := []) (World.ownsRow_nil _ _ _ _) (by simp [Value.ownBlock]))
  have HO1 := hide (owns_setBox (B := bR) (o := 4) h.own h.ownB (.slice none 0 0))
  have HNR := hide (And.intro h.ownB h.ownM)
  have HNS := hide h.neS
  have hlo := h.below.size
  have hmm := @run_makeMap Tryz.prog
  clear hr hG hP hJ h
  go_enter Tryz.func30, Tryz.ntmps30
  go_wp2_with fail
  have hsz : w.heap.size = (w.setCell ⟨bR, 4, none⟩ (.slice none 0 0)).heap.size := (World.size_setCell ..).symm
  generalize w.setCell ⟨bR, 4, none⟩ (.slice none 0 0) = w1 at *
  rw [hsz]
  have hA1 := (Below.refl w1.heap.size w1).alloc (Nat.le_refl _) (.map #[] 0)
  have HGS : Hid (GI N w0 (w1.alloc (.map #[] 0)) (w1.alloc (.map #[] 0)) (.slice a N.pcs.length cap) (.slice a' N.jts.length cap') m nS bR mT w1.heap.size num nT out (.slice none 0 0) []) := ⟨⟨nT, [], 0, HN1.out.later hA1, CM.made w1, SeenI.start N out, Nat.le_refl _, Nat.le_add_right _ _⟩, fun _ _ _ _ _ => rfl, Nat.le_refl _, fun g e => by simp [Value.ownBlock] at e⟩
  have HOB := hide (owns_later' HO1.out hA1)
  have HCM := hide (CM.made w1)
  have hlt : bR < w1.heap.size ∧ mT < w1.heap.size ∧ m < w1.heap.size := ⟨HN1.out.bl, HN1.out.tm.lt, HN1.out.seats.lt⟩
  have hl01 := HN1.out.below.size
  clear hA1 HO1 HN1 c4 f4 hbl hmm
  generalize hwb : w1.alloc (.map #[] 0) = wb at *
  generalize hmC : w1.heap.size = mC at *
  have hCb : mC < wb.heap.size := by rw [← hwb, ← hmC]; simp
  clear hwb hmC
  go_loopw [5, 6, 8, 9, 20] (fun _ _ _ _ ix wr => ∃ (j : Nat) (dv : Value), j ≤ line.length ∧ ix = .int .i64 j ∧ Hid (GI N w0 wb wr (.slice a N.pcs.length cap) (.slice a' N.jts.length cap') m nS bR mT mC num nT out dv (candsR N (line.take j)))) (fun _ _ _ _ ix _ => line.length - (intOf ix).toNat)
  case atStart => exact ⟨0, _, Nat.zero_le _, rfl, HGS⟩
  case round =>
    obtain ⟨j, dv, hj, rfl, HGI⟩ := hrel
    clear HGS
    by_cases hlj : j < line.length
    · have hji : (j : Int) < (line.length : Int) := by omega
      obtain ⟨g, rfl, e0, e1, e2, e3⟩ := dvs_rd HOB.out hlj
      have hgR : g ≠ bR := fun e => HNR.out.1 (by rw [e]; rfl)
      have hgM : g ≠ mT := fun e => HNR.out.2 (by rw [e]; rfl)
      have hgC : g ≠ mC := fun e => ownC HCM.out HOB.out (by rw [e]; rfl)
      replace e0 := HGI.out.cell hgR hgM hgC e0
      replace e1 := HGI.out.cell hgR hgM hgC e1
      replace e2 := HGI.out.cell hgR hgM hgC e2
      replace e3 := HGI.out.cell hgR hgM hgC e3
      have hDv := HG.out.line line[j] (List.getElem_mem hlj)
      have HSO := hide (sons_ok HR.out hDv.1 hDv.2)
      have HCS := hide (candsR_succ (N := N) hlj)
      have hsf := spot_facts hDv.1.spot
      have hlf := hDv.1.left
      have hst : stepOk N.pcs.length (line[j].1.1, line[j].1.2.2) = true := by
        simp only [stepOk, inR, Bool.and_eq_true, decide_eq_true_eq, Bool.or_eq_true, beq_iff_eq]
        omega
      have hcl : (candsR N (line.take j)).length ≤ 2 * j := by
        have h := candsR_len N (line.take j)
        rw [List.length_take] at h
        omega
      clear hDv
      generalize line[j] = cd at *
      obtain ⟨⟨q, at', wy⟩, l⟩ := cd
      dsimp only at e0 e1 e2 e3 hsf hlf hst
      obtain ⟨k, rfl⟩ := Int.eq_ofNat_of_zero_le hsf.1
      have hkl : k < N.pcs.length := by omega
      have hlen := lenAt_pos HR.out k (by omega) (by omega)
      have HLN := hide (lenAt_nat N k hkl)
      rw [HLN.out] at hsf hlen
      have hsw := hsf.2.2.1
      have hrm : 0 ≤ roomP N k at' wy ∧ roomP N k at' wy ≤ 10000000 := by
        unfold roomP
        rw [HLN.out]
        split <;> omega
      have hel := cell_lt e0
      have hA3 := (Below.refl wr.heap.size wr).alloc (Nat.le_refl _) (.cells #[.int .i64 k, .int .i64 at', .int .i64 wy, .int .i64 l] 78)
      have HG3 := hide (HGI.out.later hA3)
      have x0 := new_cell wr #[.int .i64 k, .int .i64 at', .int .i64 wy, .int .i64 l] 78 0 _ rfl
      have x1 := new_cell wr #[.int .i64 k, .int .i64 at', .int .i64 wy, .int .i64 l] 78 1 _ rfl
      have x2 := new_cell wr #[.int .i64 k, .int .i64 at', .int .i64 wy, .int .i64 l] 78 2 _ rfl
      have x3 := new_cell wr #[.int .i64 k, .int .i64 at', .int .i64 wy, .int .i64 l] 78 3 _ rfl
      have hMr : wb.heap.size ≤ wr.heap.size := HGI.out.size
      have HDO := hide (show ∀ g', dv.ownBlock = some g' → g' < wr.heap.size from fun g' e => by obtain ⟨_, _, _, h1, _⟩ := HGI.out.ex; exact (h1.own.lt g' e).2)
      clear hA3
      go_upto_region 6 with fail
      clear e0 e1 e2 e3 HGI hel
      have hws : wr.heap.size < (wr.alloc (.cells #[.int .i64 k, .int .i64 at', .int .i64 wy, .int .i64 l] 78)).heap.size := by simp
      generalize wr.alloc (.cells #[.int .i64 k, .int .i64 at', .int .i64 wy, .int .i64 l] 78) = w3 at *
      generalize wr.heap.size = bD at *
      obtain ⟨nT3, seen3, nC3, hR3, _⟩ := HG3.out.ex
      have HR3 := hide hR3
      obtain ⟨c0, c1, c2, _, _, _⟩ := hR3.cells
      have HCB : Hid (CB w3 w3 bD bR m (.slice a N.pcs.length cap) (.slice a' N.jts.length cap') k at' wy l) := ⟨⟨x0, x1, x2, x3, c0, c1, c2⟩, Below.refl _ _⟩
      have h3 : Below w3.heap.size w3 w3.drew := (Below.refl _ _).drew
      have hwr : IntKind.i64.wrap (l - roomP N k at' wy) = l - roomP N k at' wy := by rw [IntKind.wrap_i64]; omega
      clear x0 x1 x2 x3 c0 c1 c2 hR3
      go_cut [6, 20] from 20 to 63 (fun s6 s20 wx => s20 = .int .i64 j ∧ s6 = .int .i64 (l - roomP N k at' wy) ∧ Hid (Below w3.heap.size w3 wx))
      case first =>
        go_region_held3 (fun wx => CB w3 wx bD bR m (.slice a N.pcs.length cap) (.slice a' N.jts.length cap') k at' wy l)
          (first
            | (exact keepCB h3 HCB.out)
            | (with_reducible exact HGT.out)
            | (exact keepCB (by assumption) (by assumption)))
          (first
            | (go_at_call 58; refine (layAhead_any a a' N cap cap' m k at' wy _ hkl hsw (by omega) (by omega) (HP.out.later (HR3.out.below.trans ((heldCB (by assumption)).mono HR3.out.below.size)))).mono ?_; rintro e wT ⟨rfl, hbT⟩; have HGT : Hid (CB w3 wT bD bR m (.slice a N.pcs.length cap) (.slice a' N.jts.length cap') k at' wy l) := keepCB hbT (by assumption); clear hbT))
        all_goals
          rename_i hHS
          have HHS := hide hHS.2.out
          clear hHS
          go_wp2_with fail
          go_meet
          case rel => exact ⟨rfl, rfl, HHS⟩
      case rest =>
        obtain ⟨rfl, rfl, HB4⟩ := hcut
        rename World => w4
        have HCB4 := hide (keepCB HB4.out HCB.out)
        have h4 : Below w4.heap.size w4 w4.drew := (Below.refl _ _).drew
        clear HCB h3
        go_upto_region 7 with fail
        go_cut [20, 40, 41, 42] from 20 to 63 (fun s20 s40 s41 s42 wx => s20 = .int .i64 j ∧ s41 = .int .i64 (nxP N (headP k wy)).length ∧ s42 = .int .i64 0 ∧ ∃ za zc, s40 = .slice za (nxP N (headP k wy)).length zc ∧ Hid (wx.ownsRow w3.heap.size 29 3 (.slice za (nxP N (headP k wy)).length zc) (nxP N (headP k wy)).length (partCells ((nxP N (headP k wy)).map (enterP N)))) ∧ Hid (Below w3.heap.size w3 wx))
        case first =>
          go_region_held3 (fun wx => CB w3 wx bD bR m (.slice a N.pcs.length cap) (.slice a' N.jts.length cap') k at' wy l)
            (first
              | (exact keepCB h4 HCB4.out)
              | (with_reducible exact HGT.out)
              | (exact keepCB (by assumption) (by assumption)))
            (first
              | (go_at_call 59; refine (beyond_any a a' N cap cap' m nS k at' wy _ HR.out hpl hst (HP.out.later (HR3.out.below.trans ((heldCB (by assumption)).mono HR3.out.below.size))) (HJ.out.later (HR3.out.below.trans ((heldCB (by assumption)).mono HR3.out.below.size))) (HR3.out.seats.of_block ((heldCB (by assumption)).block m HR3.out.seats.lt))).mono ?_; rintro e wT ⟨v, rfl, hrow, hbT⟩; have HSB : Hid (w3.heap.size ≤ _) := (heldCB (by assumption)).size; have HGT : Hid (CB w3 wT bD bR m (.slice a N.pcs.length cap) (.slice a' N.jts.length cap') k at' wy l) := keepCB hbT (by assumption); have hrow2 := owns_low hrow HSB.out; obtain ⟨za, zc, rfl⟩ := sps_form9 hrow2; have HROW := hide hrow2; clear hbT hrow hrow2 HSB))
          all_goals
            rename_i hHS
            have HHS := hide hHS.2.out
            clear hHS
            go_wp2_with fail
            go_meet
            case rel => exact ⟨rfl, rfl, rfl, za, zc, rfl, HROW, HHS⟩
        case rest =>
          obtain ⟨rfl, rfl, rfl, za, zc, rfl, HROW, HB5⟩ := hcut
          rename World => w5
          clear HCB4 h4 HB4
          have HG5 := hide (HG3.out.later HB5.out)
          have hle2 := nxP_len N (headP (k : Int) wy)
          have HEO := hide (fun e (he : e ∈ nxP N (headP (k : Int) wy)) => (grN N HR.out).ok _ e he)
          have HMS := hide (show ∀ e ∈ nxP N (headP (k : Int) wy), (enterP N e, l - roomP N k at' wy) ∈ sonsR N (((k : Int), at', wy), l) from fun e he => List.mem_map.2 ⟨e, he, rfl⟩)
          have HTK := hide (fun i (hi : i < (nxP N (headP (k : Int) wy)).length) => sonsR_take (c := (((k : Int), at', wy), l)) rfl hi)
          have HTA := hide (sonsR_all (c := (((k : Int), at', wy), l)) (L := nxP N (headP (k : Int) wy)) rfl)
          generalize nxP N (headP (k : Int) wy) = L at *
          have HKS : Hid (Keep3 bD w5 w5 dv) := Keep3.start HDO.out
          have hs5 := HB5.out.size
          have h0C : w0.heap.size ≤ mC := by omega
          have HST : Hid (GI N w0 wb w5 (.slice a N.pcs.length cap) (.slice a' N.jts.length cap') m nS bR mT mC num nT out dv (candsR N (line.take j) ++ (sonsR N ((↑k, at', wy), l)).take 0)) := by
            rw [List.take_zero, List.append_nil]
            exact HG5.out
          clear HG5 HG3 HDO HB5 HR3
          go_wp2_with fail
          go_loopw [8, 9, 42] (fun _ _ ix wi => ∃ (i : Nat) (dv : Value), i ≤ L.length ∧ ix = .int .i64 i ∧ Hid (GI N w0 wb wi (.slice a N.pcs.length cap) (.slice a' N.jts.length cap') m nS bR mT mC num nT out dv (candsR N (line.take j) ++ (sonsR N ((↑k, at', wy), l)).take i)) ∧ Hid (Keep3 bD w5 wi dv)) (fun _ _ ix _ => L.length - (intOf ix).toNat)
          case atStart => exact ⟨0, dv, Nat.zero_le _, rfl, HST, HKS⟩
          case round =>
            obtain ⟨i, dv2, hi, rfl, HGI, HKI⟩ := hrel
            rename World => wi
            clear HST HKS
            by_cases hil : i < L.length
            · have hii : (i : Int) < (L.length : Int) := by omega
              have hrow' : w5.ownsRow w3.heap.size 29 3 (.slice za L.length zc) (L.map (enterP N)).length (partCells (L.map (enterP N))) := by rw [List.length_map]; exact HROW.out
              obtain ⟨gb, rfl, d0, d1, d2⟩ := sps_rd hrow' (k := i) (by simpa using hil)
              have hgb : w3.heap.size ≤ gb := (hrow'.lt gb rfl).1
              rw [List.getElem_map] at d0 d1 d2
              have HTK2 := hide (HTK.out i hil)
              have hxm := HMS.out L[i] (List.getElem_mem hil)
              have hE0 := HEO.out L[i] (List.getElem_mem hil)
              generalize L[i] = ee at *
              have hxk := HSO.out _ hxm
              obtain ⟨p1, p2, p3, hEN⟩ : ∃ p1 p2 p3, enterP N ee = (p1, p2, p3) := ⟨_, _, _, rfl⟩
              rw [hEN] at d0 d1 d2 HTK2 hxk
              dsimp only at d0 d1 d2
              have HXK := hide hxk.1
              have HWF := hide (show WfD ((p1, p2, p3), l - roomP N k at' wy) from ⟨wfS_of HR.out hxk.1.spot, wf_small9 (by omega) (by omega)⟩)
              replace d0 := HKI.out.cell (by omega) d0
              replace d1 := HKI.out.cell (by omega) d1
              replace d2 := HKI.out.cell (by omega) d2
              have hdl := cell_lt d0
              have hcl2 : (candsR N (line.take j) ++ (sonsR N (((k : Int), at', wy), l)).take i).length ≤ 2100 := by
                rw [List.length_append, List.length_take]
                omega
              have hbI : bD ≤ wi.heap.size := Nat.le_trans (by omega) HKI.out.size
              have hA6 := ((Below.refl wi.heap.size wi).alloc (Nat.le_refl _) (.cells #[.int .i64 p1, .int .i64 p2, .int .i64 p3] 29)).alloc (by simp) (.cells #[.int .i64 p1, .int .i64 p2, .int .i64 p3, .int .i64 (l - roomP N k at' wy)] 78)
              have y0 : ((wi.alloc (.cells #[.int .i64 p1, .int .i64 p2, .int .i64 p3] 29)).alloc (.cells #[.int .i64 p1, .int .i64 p2, .int .i64 p3, .int .i64 (l - roomP N k at' wy)] 78)).cell? ⟨wi.heap.size + 1, 0, none⟩ = some (.int .i64 p1) := by simp [go_sem]
              have y1 : ((wi.alloc (.cells #[.int .i64 p1, .int .i64 p2, .int .i64 p3] 29)).alloc (.cells #[.int .i64 p1, .int .i64 p2, .int .i64 p3, .int .i64 (l - roomP N k at' wy)] 78)).cell? ⟨wi.heap.size + 1, 1, none⟩ = some (.int .i64 p2) := by simp [go_sem]
              have y2 : ((wi.alloc (.cells #[.int .i64 p1, .int .i64 p2, .int .i64 p3] 29)).alloc (.cells #[.int .i64 p1, .int .i64 p2, .int .i64 p3, .int .i64 (l - roomP N k at' wy)] 78)).cell? ⟨wi.heap.size + 1, 2, none⟩ = some (.int .i64 p3) := by simp [go_sem]
              have y3 : ((wi.alloc (.cells #[.int .i64 p1, .int .i64 p2, .int .i64 p3] 29)).alloc (.cells #[.int .i64 p1, .int .i64 p2, .int .i64 p3, .int .i64 (l - roomP N k at' wy)] 78)).cell? ⟨wi.heap.size + 1, 3, none⟩ = some (.int .i64 (l - roomP N k at' wy)) := by simp [go_sem]
              have HG6 := hide (HGI.out.later hA6)
              have HK6 := hide (HKI.out.below hA6)
              obtain ⟨nT6, seen, nC, hR6, hC6, hS6, hnC6, hnT6⟩ := HG6.out.ex
              obtain ⟨c, hlk, hc0, hcn⟩ := hC6.look (x := ((p1, p2, p3), l - roomP N k at' wy)) HWF.out
              simp only [dvV] at hlk
              have hDO : ∀ g', dv2.ownBlock = some g' → g' < wi.heap.size := fun g' e => by obtain ⟨_, _, _, h1, _⟩ := HGI.out.ex; exact (h1.own.lt g' e).2
              have HDO := hide hDO
              clear hrow' hxm hE0 hxk hA6 HGI HKI hDO
              by_cases hx : (((p1, p2, p3), l - roomP N k at' wy) : Dv) ∈ seen
              · have hq : ((c : Int) == 0) = false := by
                  rw [beq_eq_false_iff_ne]
                  intro e
                  exact (hc0.1 (by omega)) hx
                go_upto_region 13 with fail
                clear d0 d1 d2
                generalize (wi.alloc (.cells #[.int .i64 p1, .int .i64 p2, .int .i64 p3] 29)).alloc (.cells #[.int .i64 p1, .int .i64 p2, .int .i64 p3, .int .i64 (l - roomP N k at' wy)] 78) = w6 at *
                have hyl := cell_lt y0
                obtain ⟨v0', st, wE, c', hE, hl', hcn', hst⟩ := (CM.of_block (w' := w6.drew) hC6 rfl).bump (x := ((p1, p2, p3), l - roomP N k at' wy)) (by omega) HWF.out
                obtain ⟨c9, hl9, _, hcn9⟩ := (CM.of_block (w' := w6.drew) hC6 rfl).look (x := ((p1, p2, p3), l - roomP N k at' wy)) HWF.out
                obtain ⟨wA, hA, hCA, hgA⟩ := hst c9 hcn9
                obtain ⟨wB, hB, hCB, hgB⟩ := hst c' hcn'
                have hwA : IntKind.i64.wrap ((c9 : Int) + 1) = (c9 : Int) + 1 := by rw [IntKind.wrap_i64]; omega
                have hwB : IntKind.i64.wrap ((c' : Int) + 1) = (c' : Int) + 1 := by rw [IntKind.wrap_i64]; omega
                simp only [dvV] at hE hl' hl9
                have HFA : Hid (GI N w0 wb wA (.slice a N.pcs.length cap) (.slice a' N.jts.length cap') m nS bR mT mC num nT out dv2 (candsR N (line.take j) ++ (sonsR N ((↑k, at', wy), l)).take (i + 1))) := by
                  rw [HTK2.out, ← List.append_assoc]
                  exact (HG6.out.later ((Below.refl w6.heap.size w6).drew)).old (hR6.later ((Below.refl w6.heap.size w6).drew)) (CM.of_block (w' := w6.drew) hC6 rfl) hS6 hnT6 hnC6 hx hgA hCA h0C hlt
                have HFB : Hid (GI N w0 wb wB (.slice a N.pcs.length cap) (.slice a' N.jts.length cap') m nS bR mT mC num nT out dv2 (candsR N (line.take j) ++ (sonsR N ((↑k, at', wy), l)).take (i + 1))) := by
                  rw [HTK2.out, ← List.append_assoc]
                  exact (HG6.out.later ((Below.refl w6.heap.size w6).drew)).old (hR6.later ((Below.refl w6.heap.size w6).drew)) (CM.of_block (w' := w6.drew) hC6 rfl) hS6 hnT6 hnC6 hx hgB hCB h0C hlt
                have HKA := hide ((HK6.out.below ((Below.refl w6.heap.size w6).drew)).beside hgA (by omega))
                have HKB := hide ((HK6.out.below ((Below.refl w6.heap.size w6).drew)).beside hgB (by omega))
                clear hst hCA hCB hgA hgB
                go_region_law (fail)
                all_goals
                  go_wp2_with fail
                  go_roundw
                  case rel => first | exact ⟨i + 1, _, by omega, by go_num, HFA, HKA⟩ | exact ⟨i + 1, _, by omega, by go_num, HFB, HKB⟩
                  case measure => simp [intOf]; omega
              · have hq : c = 0 := hc0.2 hx
                subst hq
                have hll6 : (runR N (out, []) (candsR N (line.take j) ++ (sonsR N (((k : Int), at', wy), l)).take i)).2.length ≤ 100000 := by
                  have h := runR_len N (candsR N (line.take j) ++ (sonsR N (((k : Int), at', wy), l)).take i) (out, [])
                  have e0 : ((out, []) : List (Int × Int × Int) × List Dv).2.length = 0 := rfl
                  rw [e0] at h
                  omega
                go_upto_region 12 with fail
                clear d0 d1 d2
                generalize (wi.alloc (.cells #[.int .i64 p1, .int .i64 p2, .int .i64 p3] 29)).alloc (.cells #[.int .i64 p1, .int .i64 p2, .int .i64 p3, .int .i64 (l - roomP N k at' wy)] 78) = w6 at *
                have hyl := cell_lt y0
                have HCO := hide (come_any a a' cap cap' ((p1, p2, p3), l - roomP N k at' wy) w6 HR.out hF HXK.out HP.out hR6 (by omega) hll6)
                go_wp2_with fail
                refine HCO.out.mono ?_
                rintro e w7 ⟨rfl, dv7, nT7, hR7, hK7, hN7, hn7⟩
                have HR7 := hide hR7
                have HK7 := hide hK7
                have HN7 := hide hN7
                have hbN : ∀ g', dv2.ownBlock = some g' → g' ≠ wi.heap.size + 1 := fun g' e e' => by have := HDO.out g' e; omega
                replace y0 := hK7.cell (by omega) (by omega) (fun e => hbN _ e.symm rfl) y0
                replace y1 := hK7.cell (by omega) (by omega) (fun e => hbN _ e.symm rfl) y1
                replace y2 := hK7.cell (by omega) (by omega) (fun e => hbN _ e.symm rfl) y2
                replace y3 := hK7.cell (by omega) (by omega) (fun e => hbN _ e.symm rfl) y3
                have hC7 := hC6.of_block (hK7.block mC hC6.lt (by omega) (by omega) (fun e => by have := ownC hC6 hR6.own; exact this e.symm))
                have hyl7 := cell_lt y0
                have HXN := hide hx
                clear hR7 hK7 hN7 hlk HCO hbN hc0 hcn hx
                go_upto_region 13 with fail
                obtain ⟨v0', st, wE, c', hE, hl', hcn', hst⟩ := (CM.of_block (w' := w7.drew) hC7 rfl).bump (x := ((p1, p2, p3), l - roomP N k at' wy)) (by omega) HWF.out
                obtain ⟨c9, hl9, _, hcn9⟩ := (CM.of_block (w' := w7.drew) hC7 rfl).look (x := ((p1, p2, p3), l - roomP N k at' wy)) HWF.out
                obtain ⟨wA, hA, hCA, hgA⟩ := hst c9 hcn9
                obtain ⟨wB, hB, hCB, hgB⟩ := hst c' hcn'
                have hwA : IntKind.i64.wrap ((c9 : Int) + 1) = (c9 : Int) + 1 := by rw [IntKind.wrap_i64]; omega
                have hwB : IntKind.i64.wrap ((c' : Int) + 1) = (c' : Int) + 1 := by rw [IntKind.wrap_i64]; omega
                simp only [dvV] at hE hl' hl9
                have HFA : Hid (GI N w0 wb wA (.slice a N.pcs.length cap) (.slice a' N.jts.length cap') m nS bR mT mC num nT out dv7 (candsR N (line.take j) ++ (sonsR N ((↑k, at', wy), l)).take (i + 1))) := by
                  rw [HTK2.out, ← List.append_assoc]
                  exact HG6.out.come (HR7.out.later ((Below.refl w7.heap.size w7).drew)) (HK7.out.trans (Kept3.of_below ((Below.refl w7.heap.size w7).drew)) HN7.out) HN7.out (CM.of_block (w' := w7.drew) hC7 rfl) hS6 hnT6 hn7 hnC6 HXN.out hgA hCA h0C hlt
                have HFB : Hid (GI N w0 wb wB (.slice a N.pcs.length cap) (.slice a' N.jts.length cap') m nS bR mT mC num nT out dv7 (candsR N (line.take j) ++ (sonsR N ((↑k, at', wy), l)).take (i + 1))) := by
                  rw [HTK2.out, ← List.append_assoc]
                  exact HG6.out.come (HR7.out.later ((Below.refl w7.heap.size w7).drew)) (HK7.out.trans (Kept3.of_below ((Below.refl w7.heap.size w7).drew)) HN7.out) HN7.out (CM.of_block (w' := w7.drew) hC7 rfl) hS6 hnT6 hn7 hnC6 HXN.out hgB hCB h0C hlt
                have HKA := hide (HK6.out.come (HK7.out.trans (Kept3.of_below (og := dv7.ownBlock) ((Below.refl w7.heap.size w7).drew)) HN7.out) HN7.out hgA (by omega) (by omega) (by omega))
                have HKB := hide (HK6.out.come (HK7.out.trans (Kept3.of_below (og := dv7.ownBlock) ((Below.refl w7.heap.size w7).drew)) HN7.out) HN7.out hgB (by omega) (by omega) (by omega))
                clear hst hCA hCB hgA hgB
                go_region_law (fail)
                all_goals
                  go_wp2_with fail
                  go_roundw
                  case rel => first | exact ⟨i + 1, _, by omega, by go_num, HFA, HKA⟩ | exact ⟨i + 1, _, by omega, by go_num, HFB, HKB⟩
                  case measure => simp [intOf]; omega
            · have hie : i = L.length := by omega
              subst hie
              have HGN : Hid (GI N w0 wb wi (.slice a N.pcs.length cap) (.slice a' N.jts.length cap') m nS bR mT mC num nT out dv2 (candsR N (line.take (j + 1)))) := by
                have h := HGI.out
                rw [HTA.out, ← HCS.out] at h
                exact h
              clear HGI
              go_wp2_with fail
              go_roundw
              case rel => exact ⟨j + 1, dv2, by omega, by go_num, HGN⟩
              case measure => simp [intOf]; omega
    · have hje : j = line.length := by omega
      subst hje
      have hG1 := HGI.out
      rw [List.take_length] at hG1
      obtain ⟨nT', seen, nC, hR, _, _, hnC, hnT'⟩ := hG1.ex
      have hcl := candsR_len N line
      obtain ⟨_, _, _, _, _, c5⟩ := hR.cells
      have f5 := hR.free 5
      have hbl := hR.bl
      have HF := hide (hR.setNum (num + 1))
      have hwr : IntKind.i64.wrap (num + 1) = num + 1 := by rw [IntKind.wrap_i64]; omega
      have hnn : nT' ≤ nT + 2000 := by omega
      clear hG1 hR
      go_wp2_with fail
      go_end0
      exact ⟨rfl, dv, nT', HF.out, hnn⟩
end Go.Proofs.YtijdigdcmjdooaaGreat

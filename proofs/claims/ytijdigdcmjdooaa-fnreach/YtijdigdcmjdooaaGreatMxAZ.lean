/- (layout).beyond. Own work. -/
import Derived.Test.YtijdigdcmjdooaaGreatMxAN
import Derived.Test.YtijdigdcmjdooaaGreatMxAY
import Derived.Test.YtijdigdcmjdooaaGreatMxAK
import Derived.Test.YtijdigdcmjdooaaGreatSxI
import Derived.Shelf.SlicesE.Clone
import Derived.Test.YtijdigdcmjdooaaGreatProg
import Derived.Test.YtijdigdcmjdooaaGreatMxAT
import Derived.Test.YtijdigdcmjdooaaGreatMxAQ
import Derived.Test.YtijdigdcmjdooaaGreatMxAF
import Derived.Test.YtijdigdcmjdooaaGreatMxAP
import Derived.Deep.RegionLaw
namespace Go.Proofs.YtijdigdcmjdooaaGreat
open Go.RowKit Go.Sort
set_option maxHeartbeats 8000000
set_option maxRecDepth 20000

theorem infoSpot : (Tryz.prog.info? 29).map (fun i => (i.zero, i.size, i.bytes)) = some (some (.agg #[.int .i64 0, .int .i64 0, .int .i64 0]), 3, 24) := by kernel_rfl
/-- The layout's and the spot's boxes, and what is looked up. -/
abbrev BT (w0 wx : World) (B m : Nat) (q at' wy hx hy : Int) (sv : Value) : Prop :=
  (wx.cell? ⟨B, 2, none⟩ = some (.map (some m)) ∧ wx.cell? ⟨B + 1, 0, none⟩ = some (.int .i64 q) ∧ wx.cell? ⟨B + 1, 1, none⟩ = some (.int .i64 at') ∧ wx.cell? ⟨B + 1, 2, none⟩ = some (.int .i64 wy) ∧ (Instr.lookup 68 (.map (some m)) (.agg #[.int .i64 hx, .int .i64 hy]) false).run Tryz.prog wx = .ok sv wx) ∧ Hid (Below w0.heap.size w0 wx)
theorem bt_of {w0 : World} {B m n : Nat} {js : List Jt} {q at' wy : Int} (hSE : SE w0 m n (seatTo js js.length)) (c2 : w0.cell? ⟨B, 2, none⟩ = some (.map (some m))) (d0 : w0.cell? ⟨B + 1, 0, none⟩ = some (.int .i64 q)) (d1 : w0.cell? ⟨B + 1, 1, none⟩ = some (.int .i64 at')) (d2 : w0.cell? ⟨B + 1, 2, none⟩ = some (.int .i64 wy)) {hx hy x y z : Int} (hw : Wf2 (hx, hy)) (ht : (seatTo js js.length (hx, hy)).getD (0, 0, 0) = (x, y, z)) {wx : World} (hb : Below w0.heap.size w0 wx) :
    BT w0 wx B m q at' wy hx hy (.agg #[.int .i64 x, .int .i64 y, .int .i64 z]) := by
  refine ⟨⟨cell_later' hb c2, cell_later' hb d0, cell_later' hb d1, cell_later' hb d2, ?_⟩, hb⟩
  rw [(hSE.of_block (hb.block m hSE.lt)).look hx hy hw, ht]
  rfl
theorem keepBT {w0 w2 w3 : World} {B m : Nat} {q at' wy hx hy : Int} {sv : Value} (hall : ∀ wx, Below w0.heap.size w0 wx → BT w0 wx B m q at' wy hx hy sv) (hb : Below w2.heap.size w2 w3) (h : BT w0 w2 B m q at' wy hx hy sv) : BT w0 w3 B m q at' wy hx hy sv :=
  hall w3 (h.2.out.trans (hb.mono h.2.out.size))
theorem keepBT3 {w0 w2 : World} {B m : Nat} {q at' wy hx hy : Int} {sv : Value} (hall : ∀ wx, Below w0.heap.size w0 wx → BT w0 wx B m q at' wy hx hy sv) {b : Nat} (hb : w0.heap.size ≤ b) (h : BT w0 w2 B m q at' wy hx hy sv) (x y z : Value) : BT w0 (((w2.setCell ⟨b, 0, none⟩ x).setCell ⟨b, 1, none⟩ y).setCell ⟨b, 2, none⟩ z) B m q at' wy hx hy sv :=
  hall _ (((h.2.out.setCell hb _).setCell hb _).setCell hb _)

abbrev BV (w1 wx : World) (B b8 jb jo : Nat) (v0 v1 : Value) (j i : Int) (k : Int) (nm : ByteArray) (es : Value) : Prop :=
  (wx.cell? ⟨B, 0, none⟩ = some v0 ∧ wx.cell? ⟨B, 1, none⟩ = some v1 ∧ wx.cell? ⟨b8, 0, none⟩ = some (.int .i64 j) ∧ wx.cell? ⟨b8, 1, none⟩ = some (.int .i64 i) ∧ wx.cell? ⟨jb, jo, none⟩ = some (.int .i64 k) ∧ wx.cell? ⟨jb, jo + 1, none⟩ = some (.string nm) ∧ wx.cell? ⟨jb, jo + 2, none⟩ = some es) ∧ Hid (Below w1.heap.size w1 wx)
theorem keepBV {w1 w2 w3 : World} {B b8 jb jo : Nat} {v0 v1 : Value} {j i k : Int} {nm : ByteArray} {es : Value} (hb : Below w2.heap.size w2 w3) (h : BV w1 w2 B b8 jb jo v0 v1 j i k nm es) : BV w1 w3 B b8 jb jo v0 v1 j i k nm es :=
  ⟨⟨cell_later' hb h.1.1, cell_later' hb h.1.2.1, cell_later' hb h.1.2.2.1, cell_later' hb h.1.2.2.2.1, cell_later' hb h.1.2.2.2.2.1, cell_later' hb h.1.2.2.2.2.2.1, cell_later' hb h.1.2.2.2.2.2.2⟩, h.2.out.trans (hb.mono h.2.out.size)⟩
theorem beyond_any (a a' : Option Addr) (N : Nt) (cap cap' m n : Nat) (q at' wy : Int) (w : World) (hright : netOk N = (0, 0)) (hn : N.pcs.length ≤ 1048576) (hs : stepOk N.pcs.length (q, wy) = true) (hP : PcsAt w a N.pcs) (hJ : JtsAt w a' N.jts) (hSE : SE w m n (seatTo N.jts N.jts.length)) :
    Calls Tryz.prog 59 #[.agg #[.slice a N.pcs.length cap, .slice a' N.jts.length cap', .map (some m)], .agg #[.int .i64 q, .int .i64 at', .int .i64 wy]] w fun e w' =>
    ∃ v, e = .returned v ∧ w'.ownsRow w.heap.size 29 3 v (nxP N (headP q wy)).length (partCells ((nxP N (headP q wy)).map (enterP N))) ∧ Below w.heap.size w w' := by
  have hsw : wy = 1 ∨ wy = -1 := by simp [stepOk] at hs; omega
  have hoke := (stepOk_ends hs).1
  dsimp only at hoke
  obtain ⟨hx, hy, hH⟩ : ∃ hx hy, headP q wy = (hx, hy) := ⟨_, _, rfl⟩
  rw [hH] at hoke ⊢
  have hwe := endOk_wf hn hoke
  obtain ⟨tk, hte, hate⟩ := seat_look hright hoke
  generalize seatJ N (hx, hy) = j at hte hate
  generalize seatI N (hx, hy) = i at hte hate
  obtain ⟨hjl, hil, _⟩ := id hate
  have hnx := nx_at hright hate hjl
  have hin : ∀ e ∈ nxP N (hx, hy), endOk N.pcs.length e = true := fun e he => (grN N hright).ok _ e he
  have hlen2 := acr_len N.jts[j] i
  rw [← hnx] at hlen2
  generalize nxP N (hx, hy) = L at hnx hin hlen2 ⊢
  have HL := hide hnx.symm
  have HIN := hide hin
  have hlL : L.length ≤ 2 := hlen2
  clear hnx hin hlen2
  have hB3 : jb3 N.pcs.length N.jts[j] = false := by rw [← jtBad3_jb3 hjl]; exact (right_facts hright).2.2.1 j hjl
  have hil4 : (i : Int) ≤ 4 ∧ (j : Int) ≤ 120 := by
    have a2 := jb3_len hB3
    have a3 := (right_facts hright).1
    simp only [sizeBad, Bool.or_eq_false_iff, decide_eq_false_iff_not] at a3
    omega
  obtain ⟨i0, hi, hz0, hz1, hz2⟩ := info_parts infoSpot
  have HI := hide hi
  have HZ0 := hide hz0
  have HZ1 := hide hz1
  have HZ2 := hide hz2
  have H3 := hide hB3
  have HH := hide hH
  have HJ := hide hJ
  have HP := hide hP
  have HSW := hide hsw
  obtain ⟨W1, hW1⟩ : ∃ W1, ((w.alloc (.cells #[.slice a N.pcs.length cap, .slice a' N.jts.length cap', .map (some m)] 70)).alloc (.cells #[.int .i64 q, .int .i64 at', .int .i64 wy] 29)) = W1 := ⟨_, rfl⟩
  have hbW : Below w.heap.size w W1 := by rw [← hW1]; exact ((Below.refl _ _).alloc (Nat.le_refl _) _).alloc (by simp) _
  have c0 : W1.cell? ⟨w.heap.size, 0, none⟩ = some (.slice a N.pcs.length cap) := by rw [← hW1]; simp [go_sem]
  have c1 : W1.cell? ⟨w.heap.size, 1, none⟩ = some (.slice a' N.jts.length cap') := by rw [← hW1]; simp [go_sem]
  have c2 : W1.cell? ⟨w.heap.size, 2, none⟩ = some (.map (some m)) := by rw [← hW1]; simp [go_sem]
  have d0 : W1.cell? ⟨w.heap.size + 1, 0, none⟩ = some (.int .i64 q) := by rw [← hW1]; simp [go_sem]
  have d1 : W1.cell? ⟨w.heap.size + 1, 1, none⟩ = some (.int .i64 at') := by rw [← hW1]; simp [go_sem]
  have d2 : W1.cell? ⟨w.heap.size + 1, 2, none⟩ = some (.int .i64 wy) := by rw [← hW1]; simp [go_sem]
  have HBS := hide (fun wx hb => bt_of (hSE.of_block (hbW.block m hSE.lt)) c2 d0 d1 d2 hwe hte (wx := wx) hb)
  have HBW := hide hbW
  have HC := hide (And.intro c0 c1)
  have hz4 := cell_lt d0
  clear hH hright hJ hP hSE hwe hte hate hoke hs hB3 hbW c0 c1 c2 d0 d1 d2 hi hz0 hz1 hz2 hsw
  go_enter Tryz.func59, Tryz.ntmps59
  go_upto_region 1 with fail
  try simp only [hW1]
  clear hW1
  go_cut [5] (fun s8 wx => ∃ b8 : Nat, s8 = .pointer (some ⟨b8, 0, none⟩) ∧ In3 wx b8 j i tk ∧ Below W1.heap.size W1 wx ∧ W1.heap.size ≤ b8)
  case first =>
    go_region_held3 (fun wx => BT W1 wx w.heap.size m q at' wy hx hy (.agg #[.int .i64 j, .int .i64 i, .int .i64 tk]))
      (first
        | (with_reducible exact HBS.out _ ((Below.refl W1.heap.size W1).drew))
        | (with_reducible exact HSF.out)
        | (exact keepBT HBS.out (by assumption) (by assumption))
        | (exact keepBT HBS.out ((Below.refl _ _).alloc (Nat.le_refl _) _) (by assumption))
        | (exact keepBT HBS.out ((Below.refl wF.heap.size wF).alloc (Nat.le_refl _) _) HSF.out)
        | (exact keepBT3 HBS.out (by omega) HSF.out _ _ _))
      (first
        | (go_at_call 88; refine (facing_at HSW.out HH.out _).mono ?_; rintro e wF ⟨rfl, hbF⟩; have HSF : Hid (BT W1 wF w.heap.size m q at' wy hx hy (.agg #[.int .i64 j, .int .i64 i, .int .i64 tk])) := keepBT HBS.out hbF (by assumption); have sF : W1.heap.size ≤ wF.heap.size := (heldB HSF.out).size; try (have y3 : Zero3 wF W1.heap.size := Zero3.later (w := (W1.alloc (.cells #[.int .i64 0, .int .i64 0, .int .i64 0] 159)).drew) (Zero3.new W1 159) hbF)))
    all_goals
      rename_i hHS
      have hbx := heldB hHS
      go_wp2_with fail
      go_meet
      first
        | exact ⟨_, rfl, In3.put y3 j i tk, hbx, by omega⟩
        | exact ⟨_, rfl, ⟨new_cell wF _ _ 0 _ rfl, new_cell wF _ _ 1 _ rfl, new_cell wF _ _ 2 _ rfl⟩, hbx, by omega⟩
  case rest =>
    obtain ⟨b8, rfl, hI3, hb1, hb8⟩ := hcut
    rename World => w1
    have HB1 := hide hb1
    have HJ1 := hide ((HJ.out.later HBW.out).later hb1)
    obtain ⟨jb, jo, ea, ec, rfl, k0, k1, k2, hEnds⟩ := HJ1.out j hjl
    have HEND := hide hEnds
    have hji : (j : Int) < (N.jts.length : Int) := by omega
    have c0 := cell_later' hb1 HC.out.1
    have c1 := cell_later' hb1 HC.out.2
    obtain ⟨i0, i1, i2'⟩ := hI3
    have HBV : Hid (BV w1 w1 w.heap.size b8 jb (jo + j * 3) (.slice a N.pcs.length cap) (.slice (some ⟨jb, jo, none⟩) N.jts.length cap') j i N.jts[j].kind N.jts[j].name (.slice ea N.jts[j].ends.length ec)) := ⟨⟨c0, c1, i0, i1, k0, k1, k2⟩, Below.refl _ _⟩
    have hw1 : w.heap.size + 1 < w1.heap.size := Nat.lt_of_lt_of_le hz4 HB1.out.size
    clear hb1 hEnds HJ1 i0 i1 i2' k0 k1 k2 c0 c1
    have h1 : Below w1.heap.size w1 w1.drew := (Below.refl _ _).drew
    go_upto_region 3 with fail
    go_cut [23, 24, 25] (fun s23 s24 s25 wx => s24 = .int .i64 L.length ∧ s25 = .int .i64 0 ∧ ∃ za zc, s23 = .slice za L.length zc ∧ Hid (EndsAt wx za L) ∧ Hid (BV w1 wx w.heap.size b8 jb (jo + j * 3) (.slice a N.pcs.length cap) (.slice (some ⟨jb, jo, none⟩) N.jts.length cap') j i N.jts[j].kind N.jts[j].name (.slice ea N.jts[j].ends.length ec)))
    case first =>
      go_region_held3 (fun wx => BV w1 wx w.heap.size b8 jb (jo + j * 3) (.slice a N.pcs.length cap) (.slice (some ⟨jb, jo, none⟩) N.jts.length cap') j i N.jts[j].kind N.jts[j].name (.slice ea N.jts[j].ends.length ec))
        (first
          | (exact keepBV h1 HBV.out)
          | (exact keepBV (by assumption) (by assumption)))
        (first
          | (go_at_call 89; refine (over_any N.pcs.length N.jts[j] ea ec i _ H3.out hil (HEND.out.later h1)).mono ?_; rintro e wO ⟨v, rfl, hNE, hbO⟩; rw [HL.out] at hNE; obtain ⟨za, zc, rfl, hEA, _⟩ := hNE; have HEA := hide hEA; clear hEA))
      all_goals
        rename_i hHS
        have HHS := hide hHS
        clear hHS
        go_wp2_with fail
        go_meet
        case rel => exact ⟨rfl, rfl, za, zc, rfl, HEA, HHS⟩
    case rest =>
      obtain ⟨rfl, rfl, za, zc, rfl, HEA, HBV2⟩ := hcut
      rename World => w2
      have hB2 := (heldB HBV2.out)
      have HB2 := hide (HBW.out.trans ((HB1.out.trans (hB2.mono HB1.out.size)).mono HBW.out.size))
      have n0 := HBV2.out.1.1
      have hlw2 := hB2.size
      clear hB2 HBV h1
      go_wp2_with fail
      go_loopw [6, 8, 25] (fun s6 _ i wr => ∃ (k : Nat), k ≤ L.length ∧ i = .int .i64 k ∧ wr.cell? ⟨w.heap.size, 0, none⟩ = some (.slice a N.pcs.length cap) ∧ Hid (wr.ownsRow w2.heap.size 29 3 s6 k (partCells ((L.take k).map (enterP N)))) ∧ Hid (∀ k (hk : k < L.length), ∃ b off, za = some ⟨b, off, none⟩ ∧ b < w2.heap.size) ∧ Hid (Below w2.heap.size w2 wr)) (fun _ _ i _ => L.length - (intOf i).toNat)
      case atStart => exact ⟨0, Nat.zero_le _, rfl, n0, World.ownsRow_nil _ _ _ _, (fun k hk => by obtain ⟨b, off, e, h1, _⟩ := HEA.out k hk; exact ⟨b, off, e, cell_lt h1⟩), Below.refl _ _⟩
      case round =>
        obtain ⟨k, hk, rfl, n0, HOW, HZA, HBR⟩ := hrel
        by_cases hlt : k < L.length
        · have hki : (k : Int) < (L.length : Int) := by omega
          obtain ⟨b, off, rfl, e0, e1⟩ := (EndsAt.later HEA.out HBR.out) k hlt
          have hE := HIN.out L[k] (List.getElem_mem hlt)
          have HTK := hide (show (L.take (k + 1)).map (enterP N) = (L.take k).map (enterP N) ++ [enterP N L[k]] by rw [List.take_succ_eq_append_getElem hlt, List.map_append]; rfl)
          generalize L[k] = ed at *
          obtain ⟨ex, ey⟩ := ed
          obtain ⟨kf, hkf, hkl, hsd⟩ : ∃ kf : Nat, ex = (kf : Int) ∧ kf < N.pcs.length ∧ (ey = 0 ∨ ey = 1) := by
            simp only [endOk, inR, Bool.and_eq_true, decide_eq_true_eq] at hE
            exact ⟨ex.toNat, by omega, by omega, by omega⟩
          subst hkf
          dsimp only at e0 e1
          have hbl := cell_lt e0
          have hwl := cell_lt n0
          have hA := (Below.refl wr.heap.size wr).alloc (Nat.le_refl _) (.cells #[.int .i64 kf, .int .i64 ey] 92)
          have HSD := hide hsd
          have HBA := hide (HBR.out.trans (hA.mono HBR.out.size))
          have HOA := hide (owns_later' HOW.out hA)
          have nA := cell_later' hA n0
          have x0 := new_cell wr #[.int .i64 kf, .int .i64 ey] 92 0 _ rfl
          have x1 := new_cell wr #[.int .i64 kf, .int .i64 ey] 92 1 _ rfl
          clear hsd hE hA
          go_upto_region 6 with fail
          generalize wr.alloc (.cells #[.int .i64 kf, .int .i64 ey] 92) = w3 at *
          generalize wr.heap.size = bE at *
          go_wp2_with fail
          refine (entry_any a N cap kf ey _ hkl HSD.out (HP.out.later (HB2.out.trans (HBA.out.mono HB2.out.size)))).mono ?_
          rintro e w4 ⟨rfl, hb4⟩
          have HO4 := hide (owns_later' HOA.out hb4)
          have HB4 := hide (HBA.out.trans (hb4.mono HBA.out.size))
          have n4 := cell_later' hb4 nA
          have hml : k + 1 ≤ maxLen := by unfold maxLen; omega
          have hs4 := HB4.out.size
          clear hb4 x0 x1 nA HOA HBA
          generalize enterP N (↑kf, ey) = sp at *
          obtain ⟨p1, p2, p3⟩ := sp
          dsimp only
          go_wp2_with (first
            | (at_builtin; (refine wpList_append_lies _ rfl _ _ _ rfl w2.heap.size 29 i0 _ 3 24 Tryz.underlying32 HI.out HZ0.out HZ1.out HZ2.out rfl (by omega) u6 k (partCells ((L.take k).map (enterP N))) rfl (HO4.out.alloc _) ⟨w4.heap.size, 0, none⟩ 1 1 [.int .i64 p1, .int .i64 p2, .int .i64 p3] rfl rfl (news_at rfl) (by simp [Value.oneCell']) (by omega) hml (by omega) (by simp; omega) _ rfl ?_); intro g2 c2' w7 hown2 hgrow2 _ hlt2))
          have HLT := hide (fun g h => (HO4.out.lt g h).1)
          have hA4 := (Below.refl w4.heap.size w4).alloc (Nat.le_refl _) (.cells #[.int .i64 p1, .int .i64 p2, .int .i64 p3] 29)
          have HB7 := hide ((HB4.out.trans (hA4.mono HB4.out.size)).grown hgrow2 (Nat.le_trans hs4 hA4.size) (fun g e => HLT.out g e))
          have n7 := hgrow2.cell (cell_later' hA4 n4) (fun e => by have hq := HLT.out w.heap.size e.symm; omega)
          refine ⟨⟨k + 1, by omega, by go_num, n7, ?_, HZA, HB7.out⟩, by simp [intOf]; omega⟩
          show World.ownsRow _ _ _ _ _ _ _
          rw [HTK.out, partCells_app']
          exact hown2
        · have e : k = L.length := by omega
          subst e
          go_wp2_with fail
          go_ret
          refine ⟨_, rfl, ?_, HB2.out.trans (HBR.out.mono HB2.out.size)⟩
          have h := HOW.out
          rw [List.take_of_length_le (Nat.le_refl _)] at h
          exact owns_low h HB2.out.size
end Go.Proofs.YtijdigdcmjdooaaGreat

/- The library's contract of slices.Clone, laid at this dump in plain words, at steps. -/
namespace Go.Proofs
open Go.Shelf
def Tryz.cloneS_ren : Go.Shelf.Ren := ⟨fun | 41 => 128 | n => n, fun | 22 => 34 | 23 => 132 | 4 => 4 | n => n, fun | n => n⟩
theorem Tryz.cloneS : Go.Proofs.SlLaysE0.n41 Tryz.prog Tryz.cloneS_ren := {
  mixed := by kernel_rfl
  f41 := ⟨Tryz.f128.name, by decide, Tryz.func128.trans (congrArg some (by kernel_rfl))⟩
  t4 := Tryz.underlying4
  a4 := Tryz.isAgg4
  z4 := Tryz.sizeOf4
  v4 := Tryz.zeroValue4
  t22 := Tryz.underlying34
  a22 := Tryz.isAgg34
  z22 := Tryz.sizeOf34
  v22 := Tryz.zeroValue34 }
end Go.Proofs

/- slices.Clone at steps; (layout).longer. Own work. -/
namespace Go.Proofs.YtijdigdcmjdooaaGreat
open Go.RowKit Go.Sort
set_option maxHeartbeats 8000000
set_option maxRecDepth 100000

theorem cells_steps {w : World} {b o : Nat} {ps : List (Int × Int)} (h : EndsAt w (some ⟨b, o, none⟩) ps) : ∀ j u, (lieCells ps)[j]? = some u → w.cell? ⟨b, o + j, none⟩ = some u := by
  intro j u hj
  have hl : (lieCells ps).length = ps.length * 2 := by
    clear h hj
    induction ps with
    | nil => rfl
    | cons x l ih =>
      have e : lieCells (x :: l) = .int .i64 x.1 :: .int .i64 x.2 :: lieCells l := rfl
      rw [e]; simp only [List.length_cons, ih]; omega
  have hjl : j < ps.length * 2 := by
    rw [← hl]
    rcases Nat.lt_or_ge j (lieCells ps).length with h | h
    · exact h
    · rw [List.getElem?_eq_none h] at hj; cases hj
  have hk : j / 2 < ps.length := by omega
  obtain ⟨p0, p1⟩ := lieCells_at ps (j / 2) hk
  obtain ⟨b', o', e, h1, h2⟩ := h (j / 2) hk
  obtain ⟨rfl, rfl⟩ : b = b' ∧ o = o' := by simpa using e
  rcases Nat.mod_two_eq_zero_or_one j with hm | hm
  · have hj2 : j = j / 2 * 2 := by omega
    rw [hj2] at hj
    rw [p0] at hj
    cases hj
    rw [show o + j = o + j / 2 * 2 by omega]
    exact h1
  · have hj2 : j = j / 2 * 2 + 1 := by omega
    rw [hj2] at hj
    rw [p1] at hj
    cases hj
    rw [show o + j = o + j / 2 * 2 + 1 by omega]
    exact h2
theorem lieCells_len2 (ps : List (Int × Int)) : (lieCells ps).length = ps.length * 2 := by
  induction ps with
  | nil => rfl
  | cons x l ih =>
    have e : lieCells (x :: l) = .int .i64 x.1 :: .int .i64 x.2 :: lieCells l := rfl
    rw [e]; simp only [List.length_cons, ih]; omega
theorem lieCells_one (ps : List (Int × Int)) : ∀ v ∈ lieCells ps, v.oneCell' = true := by
  intro v hv
  unfold lieCells at hv
  obtain ⟨p, _, hp⟩ := List.mem_flatMap.1 hv
  simp at hp
  rcases hp with rfl | rfl <;> rfl
theorem info_StepC : (Tryz.prog.info? 132).map (fun i => (i.zero, i.size, i.bytes)) = some (some (.agg #[.int .i64 0, .int .i64 0]), 2, 16) := by kernel_rfl
theorem cloneS_any (b o : Nat) (ss : List (Int × Int)) (cap : Nat) (w : World) (hl : ss.length ≤ 1000) (hp : EndsAt w (some ⟨b, o, none⟩) ss) :
    Calls Tryz.prog 128 #[.slice (some ⟨b, o, none⟩) ss.length cap] w fun e w' => ∃ v, e = .returned v ∧ w'.ownsRow w.heap.size 132 2 v ss.length (lieCells ss) ∧ Below w.heap.size w w' := by
  obtain ⟨i0, hi0, hz0, hz1, hz2⟩ := info_parts info_StepC
  have hcl := AnyE.slices_Clone Tryz.cloneS i0 (.agg #[.int .i64 0, .int .i64 0]) 2 16 hi0 hz0 hz1 hz2 rfl (by omega) Tryz.sizeOf132 b o ss.length cap (lieCells ss) w (lieCells_len2 ss) (by unfold maxLen; omega) (by omega) (cells_steps hp) (lieCells_one ss)
  change Calls Tryz.prog 128 _ _ _ at hcl
  refine hcl.mono ?_
  rintro e w1 ⟨v', rfl, how, _, hb1⟩
  exact ⟨v', rfl, how, hb1⟩
theorem steps_of_own {w : World} {base : Nat} {v : Value} {ss : List (Int × Int)} (h : w.ownsRow base 132 2 v ss.length (lieCells ss)) : ∃ z zc, v = .slice z ss.length zc ∧ StRow w z ss := by
  obtain ⟨z, zc, rfl, hE⟩ := lies_shape h
  refine ⟨z, zc, rfl, hE, fun b o e => ?_⟩
  rcases h.2 with ⟨h', _⟩ | ⟨g, cap, cur, hv, _, hg, _⟩
  · have : z = none := by simp at h'; exact h'.1
    rw [this] at e; cases e
  · have : z = some ⟨g, 0, none⟩ := by simp at hv; exact hv.1
    rw [this] at e
    have hbg : g = b := by simp at e; exact e.1
    subst hbg
    exact ⟨cur, _, hg⟩
theorem lieCells_add2 (ss : List (Int × Int)) (s : Int × Int) : lieCells (ss ++ [s]) = lieCells ss ++ [.int .i64 s.1, .int .i64 s.2] := by simp [lieCells]
/-- The way that goes on over an end. -/
def goW (far : Int) (ss : List (Int × Int)) (e : Int × Int) : Wy := ⟨far, ss ++ [stepOf e]⟩
theorem enter_step {N : Nt} {e : Int × Int} : ((enterP N e).1, (enterP N e).2.2) = stepOf e := by
  unfold enterP stepOf
  split <;> rfl
/-- The boxes of longer. -/
structure LgB (w wr : World) (v0 v1 v2 : Value) (tf : Int) (vt : Value) (q at' wy : Int) : Prop where
  n0 : wr.cell? ⟨w.heap.size, 0, none⟩ = some v0
  n1 : wr.cell? ⟨w.heap.size, 1, none⟩ = some v1
  n2 : wr.cell? ⟨w.heap.size, 2, none⟩ = some v2
  t0 : wr.cell? ⟨w.heap.size + 1, 0, none⟩ = some (.int .i64 tf)
  t1 : wr.cell? ⟨w.heap.size + 1, 1, none⟩ = some vt
  s0 : wr.cell? ⟨w.heap.size + 1 + 1, 0, none⟩ = some (.int .i64 q)
  s1 : wr.cell? ⟨w.heap.size + 1 + 1, 1, none⟩ = some (.int .i64 at')
  s2 : wr.cell? ⟨w.heap.size + 1 + 1, 2, none⟩ = some (.int .i64 wy)
  below : Below w.heap.size w wr
theorem LgB.later {w w1 w2 : World} {v0 v1 v2 vt : Value} {tf q at' wy : Int} (h : LgB w w1 v0 v1 v2 tf vt q at' wy) (hb : Below w1.heap.size w1 w2) : LgB w w2 v0 v1 v2 tf vt q at' wy :=
  ⟨cell_later' hb h.n0, cell_later' hb h.n1, cell_later' hb h.n2, cell_later' hb h.t0, cell_later' hb h.t1, cell_later' hb h.s0, cell_later' hb h.s1, cell_later' hb h.s2, h.below.trans (hb.mono h.below.size)⟩
theorem LgB.grown {w w1 w2 : World} {v0 v1 v2 vt : Value} {tf q at' wy : Int} {row : Option Nat} (h : LgB w w1 v0 v1 v2 tf vt q at' wy) (hg : w1.grownBy w2 row) (hrow : ∀ g, row = some g → w.heap.size + 1 + 1 + 1 ≤ g) : LgB w w2 v0 v1 v2 tf vt q at' wy := by
  have hA := cell_lt h.s0
  have hne : ∀ b, b ≤ w.heap.size + 1 + 1 → some b ≠ row := fun b hb e => by have := hrow b e.symm; omega
  have e : ∀ b i, b ≤ w.heap.size + 1 + 1 → w2.cell? ⟨b, i, none⟩ = w1.cell? ⟨b, i, none⟩ := fun b i hb => hg.cell_far ⟨b, i, none⟩ (by show b < w1.heap.size; omega) (hne b hb)
  exact ⟨(e _ _ (by omega)).trans h.n0, (e _ _ (by omega)).trans h.n1, (e _ _ (by omega)).trans h.n2, (e _ _ (by omega)).trans h.t0, (e _ _ (by omega)).trans h.t1, (e _ _ (by omega)).trans h.s0, (e _ _ (by omega)).trans h.s1, (e _ _ (by omega)).trans h.s2, h.below.grown hg h.below.size (fun k e => by have := hrow k e; omega)⟩

theorem steps_of_own2 {w : World} {base g cp p1 : Nat} {x y : Int} {ts : List (Int × Int)} (h : w.ownsRow base 132 2 (.slice (some ⟨g, 0, none⟩) (ts.length + 1) cp) (ts.length + 1) (lieCells ts ++ [.int .i64 x, .int .i64 y])) (_ : p1 = 0) : StRow w (some ⟨g, 0, none⟩) (ts ++ [(x, y)]) := by
  have h' : w.ownsRow base 132 2 (.slice (some ⟨g, 0, none⟩) (ts ++ [(x, y)]).length cp) (ts ++ [(x, y)]).length (lieCells (ts ++ [(x, y)])) := by
    rw [lieCells_add2, List.length_append]
    exact h
  obtain ⟨z, zc, e, hS⟩ := steps_of_own h'
  have : z = some ⟨g, 0, none⟩ := by simp at e; exact e.1.symm
  rw [this] at hS
  exact hS
theorem nxP_len (N : Nt) (e : Int × Int) : (nxP N e).length ≤ 2 := by
  unfold nxP
  split
  · exact acr_len _ _
  · simp
theorem longer_any (a a' tz : Option Addr) (N : Nt) (cap cap' m n tc : Nat) (tf : Int) (ts : List (Int × Int)) (q at' wy : Int) (w : World) (hright : netOk N = (0, 0)) (hn : N.pcs.length ≤ 1048576) (hs : spotP N q at' wy = true) (htf : 0 ≤ tf ∧ tf ≤ 100000000000) (htl : 0 < ts.length ∧ ts.length ≤ 900) (hP : PcsAt w a N.pcs) (hJ : JtsAt w a' N.jts) (hSE : SE w m n (seatTo N.jts N.jts.length)) (hT : EndsAt w tz ts) :
    Calls Tryz.prog 100 #[.agg #[.slice a N.pcs.length cap, .slice a' N.jts.length cap', .map (some m)], .agg #[.int .i64 tf, .slice tz ts.length tc], .agg #[.int .i64 q, .int .i64 at', .int .i64 wy]] w fun e w' =>
    ∃ v l, e = .returned v ∧ w'.ownsRow w.heap.size 101 2 v (nxP N (headP q wy)).length (itCells l) ∧ l.map It.y = (nxP N (headP q wy)).map (goW (tf + roomP N q at' wy) ts) ∧ (∀ i ∈ l, StRow w' i.z i.y.ss ∧ ∃ b, i.z = some ⟨b, 0, none⟩) ∧ Below w.heap.size w w' := by
  obtain ⟨i0, hi, hz0, hz1, hz2⟩ := info_parts info_StepC
  obtain ⟨i1, hj, hy0, hy1, hy2⟩ := info_parts infoTrail
  have HI := hide hi
  have HZ0 := hide hz0
  have HZ1 := hide hz1
  have HZ2 := hide hz2
  have HI' := hide hj
  have HY0 := hide hy0
  have HY1 := hide hy1
  have HY2 := hide hy2
  have HP := hide hP
  have HJ := hide hJ
  have HSE := hide hSE
  have HT := hide hT
  have HR := hide hright
  have HS := hide hs
  have hstep : stepOk N.pcs.length (q, wy) = true := by
    have h := hs
    simp only [spotP, Bool.and_eq_true] at h
    simp only [stepOk, Bool.and_eq_true]
    exact h.1
  have HST := hide hstep
  have HIN := hide (show ∀ e ∈ nxP N (headP q wy), endOk N.pcs.length e = true from fun e he => (grN N hright).ok _ e he)
  generalize hL : nxP N (headP q wy) = L at HIN ⊢
  have HL := hide hL
  clear hi hz0 hz1 hz2 hj hy0 hy1 hy2 hP hJ hSE hT hright hs hstep hL
  have HB0 : Hid (LgB w (((w.alloc (.cells #[.slice a N.pcs.length cap, .slice a' N.jts.length cap', .map (some m)] 70)).alloc (.cells #[.int .i64 tf, .slice tz ts.length tc] 101)).alloc (.cells #[.int .i64 q, .int .i64 at', .int .i64 wy] 29)) (.slice a N.pcs.length cap) (.slice a' N.jts.length cap') (.map (some m)) tf (.slice tz ts.length tc) q at' wy) :=
    ⟨by simp [go_sem], by simp [go_sem], by simp [go_sem], by simp [go_sem], by simp [go_sem], by simp [go_sem], by simp [go_sem], by simp [go_sem], (((Below.refl _ _).alloc (Nat.le_refl _) _).alloc (by simp) _).alloc (by simp; omega) _⟩
  go_enter Tryz.func100, Tryz.ntmps100
  go_upto_region 2 with fail
  generalize (((w.alloc (.cells #[.slice a N.pcs.length cap, .slice a' N.jts.length cap', .map (some m)] 70)).alloc (.cells #[.int .i64 tf, .slice tz ts.length tc] 101)).alloc (.cells #[.int .i64 q, .int .i64 at', .int .i64 wy] 29)) = w1 at *
  have n0 := HB0.out.n0
  have n1 := HB0.out.n1
  have n2 := HB0.out.n2
  have s0 := HB0.out.s0
  have s1 := HB0.out.s1
  have s2 := HB0.out.s2
  go_wp2_with fail
  refine (beyond_any a a' N cap cap' m n q at' wy _ HR.out hn HST.out (HP.out.later HB0.out.below) (HJ.out.later HB0.out.below) (HSE.out.of_block (HB0.out.below.block m HSE.out.lt))).mono ?_
  rintro e w2 ⟨vb, rfl, hob, hb2⟩
  rw [HL.out, ← List.length_map (enterP N)] at hob
  obtain ⟨zb, zbc, rfl, hPB⟩ : ∃ zb zbc, vb = .slice zb (L.map (enterP N)).length zbc ∧ PartsAt w2 zb (L.map (enterP N)) := by
    rcases parts_of_owns hob with ⟨rfl, h0⟩ | ⟨b, cap, rfl, _, _, hP', _⟩
    · exact ⟨none, 0, by rw [h0]; rfl, by rw [h0]; exact fun k hk => by simp at hk⟩
    · exact ⟨_, cap, rfl, hP'⟩
  rw [List.length_map]
  have HPB := hide hPB
  have HB2 := hide (HB0.out.later hb2)
  have hl2 : L.length ≤ 2 := by rw [← HL.out]; exact nxP_len _ _
  have hw2 := cell_lt HB2.out.s0
  clear hob hPB hb2 HB0 n0 n1 n2 s0 s1 s2
  go_wp2_with fail
  go_loopw [7, 9, 10, 15] (fun s7 _ _ i wr => ∃ (k : Nat) (l : List It), k ≤ L.length ∧ i = .int .i64 k ∧ Hid (LgB w wr (.slice a N.pcs.length cap) (.slice a' N.jts.length cap') (.map (some m)) tf (.slice tz ts.length tc) q at' wy) ∧ Hid (wr.ownsRow w2.heap.size 101 2 s7 k (itCells l)) ∧ Hid (l.map It.y = (L.take k).map (goW (tf + roomP N q at' wy) ts)) ∧ Hid (∀ i ∈ l, StRow wr i.z i.y.ss ∧ ∃ b, i.z = some ⟨b, 0, none⟩) ∧ Hid (Below w2.heap.size w2 wr)) (fun _ _ _ i _ => L.length - (intOf i).toNat)
  case atStart => exact ⟨0, [], Nat.zero_le _, rfl, HB2.out, World.ownsRow_nil _ _ _ _, rfl, (fun i hi => by simp at hi), Below.refl _ _⟩
  case round =>
    obtain ⟨k, l, hk, rfl, HLG, HOW, HMP, HSR, HBR⟩ := hrel
    by_cases hlt : k < L.length
    · have hki : (k : Int) < (L.length : Int) := by omega
      obtain ⟨b, off, rfl, e0, e1, e2⟩ := (PartsAt.later HPB.out HBR.out) k (by simpa using hlt)
      simp only [List.getElem_map] at e0 e1 e2
      have HTK := hide (show (L.take (k + 1)).map (goW (tf + roomP N q at' wy) ts) = (L.take k).map (goW (tf + roomP N q at' wy) ts) ++ [goW (tf + roomP N q at' wy) ts L[k]] by rw [List.take_succ_eq_append_getElem hlt, List.map_append]; rfl)
      have HEN := hide (enter_step (N := N) (e := L[k]))
      generalize enterP N L[k] = sp at *
      obtain ⟨p1, p2, p3⟩ := sp
      dsimp only at *
      have hbl := cell_lt e0
      have HA := hide (HLG.out.later ((Below.refl wr.heap.size wr).alloc (Nat.le_refl _) (.cells #[.int .i64 p1, .int .i64 p2, .int .i64 p3] 29)))
      have HOA := hide (owns_later' HOW.out ((Below.refl wr.heap.size wr).alloc (Nat.le_refl _) (.cells #[.int .i64 p1, .int .i64 p2, .int .i64 p3] 29)))
      have hAA := (Below.refl wr.heap.size wr).alloc (Nat.le_refl _) (.cells #[.int .i64 p1, .int .i64 p2, .int .i64 p3] 29)
      have HSA := hide (fun i hi => And.intro ((HSR.out i hi).1.later hAA) (HSR.out i hi).2)
      have HBA := hide (HBR.out.trans (hAA.mono HBR.out.size))
      have x0 := new_cell wr #[.int .i64 p1, .int .i64 p2, .int .i64 p3] 29 0 _ rfl
      have x1 := new_cell wr #[.int .i64 p1, .int .i64 p2, .int .i64 p3] 29 1 _ rfl
      have x2 := new_cell wr #[.int .i64 p1, .int .i64 p2, .int .i64 p3] 29 2 _ rfl
      clear hAA HLG HOW HSR HBR
      go_upto_region 5 with fail
      clear e0 e1 e2
      generalize wr.alloc (.cells #[.int .i64 p1, .int .i64 p2, .int .i64 p3] 29) = w3 at *
      generalize wr.heap.size = bI at *
      obtain ⟨tb, tof, rfl, _, _⟩ := HT.out 0 htl.1
      have t1 := HA.out.t1
      have hs3 := HBA.out.size
      have hx3 := cell_lt x0
      have htb1 := cell_lt t1
      have hml : ts.length + 1 ≤ maxLen := by unfold maxLen; omega
      have h3 : Below w3.heap.size w3 w3.drew := (Below.refl _ _).drew
      have HT3 := hide (HT.out.later HA.out.below)
      have hst : (p1, p3) = stepOf L[k] := HEN.out
      have HSTO := hide hst
      go_cut [10, 15] from 15 to 37 (fun s10 s15 wx => s15 = .int .i64 k ∧ ∃ g5 zc, s10 = .slice (some ⟨g5, 0, none⟩) (ts.length + 1) zc ∧ Hid (StRow wx (some ⟨g5, 0, none⟩) (ts ++ [(p1, p3)])) ∧ Hid (Below w3.heap.size w3 wx))
      case first =>
        go_region_law (first
          | (refine step_append_lies _ (by rfl) _ _ _ (by rfl) w3.heap.size 132 i0 _ 2 16 Tryz.underlying34 HI.out HZ0.out HZ1.out HZ2.out rfl (by omega) vC ts.length (lieCells ts) (by rfl) (HOS.out.alloc _) ⟨_, 0, none⟩ 1 1 [.int .i64 p1, .int .i64 p3] (by rfl) (by rfl) (World.news_of_block (heap_alloc_new _ _)) (by simp [Value.oneCell']) (by omega) hml (by omega) (by have := HBS.out.size; simp; omega) _ rfl ?_; intro g2 cp2 w7 hown2 hgrow2 _ _; have HOW2 := hide hown2; have HBG := hide ((HBS.out.alloc HBS.out.size _).grown hgrow2 (by have := HBS.out.size; simp; omega) (fun g e => (HOS.out.lt g e).1)))
          | (go_simp; go_at_call 128; refine (cloneS_any tb tof ts tc _ (by omega) (HT3.out.later h3)).mono ?_; rintro e wC ⟨vC, rfl, hoC, hbC⟩; have HOC := hide (owns_low hoC (show w3.heap.size ≤ w3.drew.heap.size from h3.size)); have HBC := hide (h3.trans hbC); have y0 := cell_later' HBC.out x0; have y1 := cell_later' HBC.out x1; have y2 := cell_later' HBC.out x2; clear hoC hbC)
          | (go_simp; go_at_call 67; refine (spotStep_any _ _ _ _).mono ?_; rintro e wS ⟨rfl, hbS⟩; have HOS := hide (owns_later' HOC.out hbS); have HBS := hide (HBC.out.trans (hbS.mono HBC.out.size)); clear hbS))
        all_goals
          have HSR2 := hide (steps_of_own2 (p1 := 0) HOW2.out rfl)
          go_wp2_with fail
          go_meet
          case rel => exact ⟨rfl, g2, cp2, rfl, HSR2, HBG⟩
      case rest =>
        obtain ⟨rfl, g5, zc5, rfl, HS5, HB5⟩ := hcut
        rename World => w5
        have HA5 := hide (HA.out.later HB5.out)
        have HOA5 := hide (owns_later' HOA.out HB5.out)
        have HSA5 := hide (fun i hi => And.intro ((HSA.out i hi).1.later HB5.out) (HSA.out i hi).2)
        have HBA5 := hide (HBA.out.trans (HB5.out.mono HBA.out.size))
        obtain ⟨kq, hkq, hkl⟩ : ∃ kq : Nat, q = (kq : Int) ∧ kq < N.pcs.length := by
          have h := HS.out
          simp only [spotP, inR, Bool.and_eq_true, decide_eq_true_eq] at h
          exact ⟨q.toNat, by omega, by omega⟩
        have hlen := lenAt_pos HR.out q (by omega) (by omega)
        have hat : 0 ≤ at' ∧ at' ≤ lenAt N q := by
          have h := HS.out
          simp only [spotP, inR, Bool.and_eq_true, decide_eq_true_eq] at h
          omega
        have hrm : 0 ≤ roomP N q at' wy ∧ roomP N q at' wy ≤ 10000000 := by
          unfold roomP
          split <;> omega
        have hwrap : IntKind.i64.wrap (tf + roomP N q at' wy) = tf + roomP N q at' wy := by rw [IntKind.wrap_i64]; omega
        have HWY := hide (spot_way HS.out)
        have HLA := hide (lenAt_nat N kq hkl)
        subst hkq
        rw [HLA.out] at hlen hat
        have t0 := HA5.out.t0
        have n0 := HA5.out.n0
        have n1 := HA5.out.n1
        have n2 := HA5.out.n2
        have s0 := HA5.out.s0
        have s1 := HA5.out.s1
        have s2 := HA5.out.s2
        have h5 : Below w5.heap.size w5 w5.drew := (Below.refl _ _).drew
        have hml2 : k + 1 ≤ maxLen := by unfold maxLen; omega
        have hs5 := HB5.out.size
        have hws5 := cell_lt s0
        clear x0 x1 x2 t1 HA HOA HSA HBA HB5 h3 hst
        go_upto_region 6 with fail
        go_region_law (first
          | (refine step_append_lies _ (by rfl) _ _ _ (by rfl) w2.heap.size 101 i1 _ 2 32 Tryz.underlying169 HI'.out HY0.out HY1.out HY2.out rfl (by omega) u7 k (itCells l) (by rfl) (HO6.out.alloc _) ⟨_, 0, none⟩ 1 1 [.int .i64 (tf + roomP N kq at' wy), .slice (some ⟨g5, 0, none⟩) (ts.length + 1) zc5] (by rfl) (by rfl) (World.news_of_block (heap_alloc_new _ _)) (by simp [Value.oneCell']) (by omega) hml2 (by omega) (by have := HB6.out.size; simp; omega) _ rfl ?_; intro g2 cp2 w7 hown2 hgrow2 _ _; have HOW2 := hide hown2; have HGR := hide hgrow2)
          | (go_simp; go_at_call 58; refine (layAhead_any a a' N cap cap' m kq at' wy _ hkl HWY.out (by omega) (by omega) (HP.out.later (HA5.out.below.trans (h5.mono HA5.out.below.size)))).mono ?_; rintro e w6 ⟨rfl, hb6⟩; have hb56 := h5.trans hb6; have HA6 := hide (HA5.out.later hb56); have t6 := HA6.out.t0; have HO6 := hide (owns_later' HOA5.out hb56); have HS6 := hide (fun i hi => And.intro ((HSA5.out i hi).1.later hb56) (HSA5.out i hi).2); have HS56 := hide (HS5.out.later hb56); have HB6 := hide (HBA5.out.trans (hb56.mono HBA5.out.size)); clear hb6 hb56))
        all_goals
          have hA6 := (Below.refl w6.heap.size w6).alloc (Nat.le_refl _) (.cells #[.int .i64 (tf + roomP N kq at' wy), .slice (some ⟨g5, 0, none⟩) (ts.length + 1) zc5] 101)
          have HLT := hide (fun g h => (HO6.out.lt g h).1)
          have hB6s := HB6.out.size
          have HLG7 := hide ((HA6.out.later hA6).grown HGR.out (fun g e => by have := HLT.out g e; omega))
          have HB7 := hide ((HB6.out.trans (hA6.mono HB6.out.size)).grown HGR.out (Nat.le_trans hB6s hA6.size) (fun g e => HLT.out g e))
          have HK7 := hide (show Kept2 (w6.alloc (.cells #[.int .i64 (tf + roomP N kq at' wy), .slice (some ⟨g5, 0, none⟩) (ts.length + 1) zc5] 101)).heap.size u7.ownBlock _ w7 from ⟨HGR.out.os, HGR.out.tape, HGR.out.output, HGR.out.size, fun j hj _ ho => HGR.out.block j hj ho⟩)
          have HOT := hide (show OwnT (w6.alloc (.cells #[.int .i64 (tf + roomP N kq at' wy), .slice (some ⟨g5, 0, none⟩) (ts.length + 1) zc5] 101)) u7.ownBlock from fun g hg cur fz e => by
            rcases (HO6.out.alloc (.cells #[.int .i64 (tf + roomP N kq at' wy), .slice (some ⟨g5, 0, none⟩) (ts.length + 1) zc5] 101)).2 with ⟨rfl, _⟩ | ⟨g', cap', cur', rfl, _, hc, _⟩
            · cases hg
            · have : g' = g := by simpa [Value.ownBlock] using hg
              subst this
              rw [hc] at e
              simp at e)
          have HNB := hide (show ∀ cur fz, (w6.alloc (.cells #[.int .i64 (tf + roomP N kq at' wy), .slice (some ⟨g5, 0, none⟩) (ts.length + 1) zc5] 101)).heap[(w6.alloc (.cells #[.int .i64 (tf + roomP N kq at' wy), .slice (some ⟨g5, 0, none⟩) (ts.length + 1) zc5] 101)).heap.size]? ≠ some (.cells cur 132 fz) from fun cur fz e => by
            rw [Array.getElem?_eq_none (Nat.le_refl _)] at e
            cases e)
          have HST7 := hide (show ∀ i ∈ l ++ [(⟨⟨tf + roomP N kq at' wy, ts ++ [(p1, p3)]⟩, (some ⟨g5, 0, none⟩), zc5⟩ : It)], StRow w7 i.z i.y.ss ∧ ∃ b, i.z = some ⟨b, 0, none⟩ from fun i hi => by
            rcases List.mem_append.1 hi with hi | hi
            · exact ⟨((HS6.out i hi).1.later hA6).kept2 HK7.out HNB.out HOT.out, (HS6.out i hi).2⟩
            · have : i = ⟨⟨tf + roomP N kq at' wy, ts ++ [(p1, p3)]⟩, (some ⟨g5, 0, none⟩), zc5⟩ := by simpa using hi
              subst this
              exact ⟨(HS56.out.later hA6).kept2 HK7.out HNB.out HOT.out, g5, rfl⟩)
          have HMP7 := hide (show (l ++ [(⟨⟨tf + roomP N kq at' wy, ts ++ [(p1, p3)]⟩, (some ⟨g5, 0, none⟩), zc5⟩ : It)]).map It.y = (L.take (k + 1)).map (goW (tf + roomP N kq at' wy) ts) by
            rw [List.map_append, HMP.out, HTK.out, goW, ← HSTO.out]
            rfl)
          clear hA6
          go_wp2_with fail
          refine ⟨⟨k + 1, l ++ [(⟨⟨tf + roomP N kq at' wy, ts ++ [(p1, p3)]⟩, (some ⟨g5, 0, none⟩), zc5⟩ : It)], by omega, by go_num, HLG7, ?_, HMP7, HST7, HB7⟩, by simp [intOf]; omega⟩
          show World.ownsRow _ _ _ _ _ _ _
          rw [itCells_add]
          simp only [List.length_append, List.length_singleton]
          exact HOW2.out
    · have e : k = L.length := by omega
      subst e
      go_wp2_with fail
      go_ret
      have hsz := HB2.out.below.size
      exact ⟨_, l, rfl, owns_low HOW.out hsz, by rw [HMP.out, List.take_of_length_le (Nat.le_refl _)], HSR.out, HLG.out.below⟩
end Go.Proofs.YtijdigdcmjdooaaGreat

/- (layout).beyond. Own work. -/
import Derived.Test.YtijdigdcmjdooaaGreatWaC
import Derived.Test.YtijdigdcmjdooaaGreatCuH
import Derived.Test.YtijdigdcmjdooaaGreatMxAM
import Derived.Test.YtijdigdcmjdooaaGreatSxI
import Derived.Shelf.SlicesE.Clone
import Derived.Test.YtijdigdcmjdooaaGreatProg
namespace Go.Proofs.YtijdigdcmjdooaaGreat
open Go.RowKit Go.Sort
set_option maxHeartbeats 8000000
set_option maxRecDepth 20000

theorem infoSpot : (Tryz.prog.info? 29).map (fun i => (i.zero, i.size, i.bytes)) = some (some (.agg #[.int .i64 0, .int .i64 0, .int .i64 0]), 3, 24) := by kernel_rfl
/-- The layout's and the spot's boxes, and what is looked up. -/
abbrev BT (w0 wx : World) (B m : Nat) (q at' wy hx hy : Int) (sv : Value) : Prop :=
  (wx.cell? ⟨B, 2, none⟩ = some (.map (some m)) ∧ wx.cell? ⟨B + 1, 0, none⟩ = some (.int .i64 q) ∧ wx.cell? ⟨B + 1, 1, none⟩ = some (.int .i64 at') ∧ wx.cell? ⟨B + 1, 2, none⟩ = some (.int .i64 wy) ∧ (Instr.lookup 68 (.map (some m)) (.agg #[.int .i64 hx, .int .i64 hy]) false).run Tryz.prog wx = .ok sv wx) ∧ Hid (Below w0.heap.size w0 wx)
theorem bt_of {w0 : World} {B m n : Nat} {js : List Jt} {q at' wy : Int} (hSE : SE w0 m n (seatTo js js.length)) (c2 : w0.cell? ⟨B, 2, none⟩ = some (.map (some m))) (d0 : w0.cell? ⟨B + 1, 0, none⟩ = some (.int .i64 q)) (d1 : w0.cell? ⟨B + 1, 1, none⟩ = some (.int .i64 at')) (d2 : w0.cell? ⟨B + 1, 2, none⟩ = some (.int .i64 wy)) {hx hy x y z : Int} (hw : Wf2 (hx, hy)) (ht : (seatTo js js.length (hx, hy)).getD (0, 0, 0) = (x, y, z)) {wx : World} (hb : Below w0.heap.size w0 wx) :
    BT w0 wx B m q at' wy hx hy (.agg #[.int .i64 x, .int .i64 y, .int .i64 z]) := by
  refine ⟨⟨cell_later' hb c2, cell_later' hb d0, cell_later' hb d1, cell_later' hb d2, ?_⟩, hb⟩
  rw [(hSE.of_block (hb.block m hSE.lt)).look hx hy hw, ht]
  rfl
theorem keepBT {w0 w2 w3 : World} {B m : Nat} {q at' wy hx hy : Int} {sv : Value} (hall : ∀ wx, Below w0.heap.size w0 wx → BT w0 wx B m q at' wy hx hy sv) (hb : Below w2.heap.size w2 w3) (h : BT w0 w2 B m q at' wy hx hy sv) : BT w0 w3 B m q at' wy hx hy sv :=
  hall w3 (h.2.out.trans (hb.mono h.2.out.size))
theorem keepBT3 {w0 w2 : World} {B m : Nat} {q at' wy hx hy : Int} {sv : Value} (hall : ∀ wx, Below w0.heap.size w0 wx → BT w0 wx B m q at' wy hx hy sv) {b : Nat} (hb : w0.heap.size ≤ b) (h : BT w0 w2 B m q at' wy hx hy sv) (x y z : Value) : BT w0 (((w2.setCell ⟨b, 0, none⟩ x).setCell ⟨b, 1, none⟩ y).setCell ⟨b, 2, none⟩ z) B m q at' wy hx hy sv :=
  hall _ (((h.2.out.setCell hb _).setCell hb _).setCell hb _)

abbrev BV (w1 wx : World) (B b8 jb jo : Nat) (v0 v1 : Value) (j i : Int) (k : Int) (nm : ByteArray) (es : Value) : Prop :=
  (wx.cell? ⟨B, 0, none⟩ = some v0 ∧ wx.cell? ⟨B, 1, none⟩ = some v1 ∧ wx.cell? ⟨b8, 0, none⟩ = some (.int .i64 j) ∧ wx.cell? ⟨b8, 1, none⟩ = some (.int .i64 i) ∧ wx.cell? ⟨jb, jo, none⟩ = some (.int .i64 k) ∧ wx.cell? ⟨jb, jo + 1, none⟩ = some (.string nm) ∧ wx.cell? ⟨jb, jo + 2, none⟩ = some es) ∧ Hid (Below w1.heap.size w1 wx)
theorem keepBV {w1 w2 w3 : World} {B b8 jb jo : Nat} {v0 v1 : Value} {j i k : Int} {nm : ByteArray} {es : Value} (hb : Below w2.heap.size w2 w3) (h : BV w1 w2 B b8 jb jo v0 v1 j i k nm es) : BV w1 w3 B b8 jb jo v0 v1 j i k nm es :=
  ⟨⟨cell_later' hb h.1.1, cell_later' hb h.1.2.1, cell_later' hb h.1.2.2.1, cell_later' hb h.1.2.2.2.1, cell_later' hb h.1.2.2.2.2.1, cell_later' hb h.1.2.2.2.2.2.1, cell_later' hb h.1.2.2.2.2.2.2⟩, h.2.out.trans (hb.mono h.2.out.size)⟩
theorem beyond_any (a a' : Option Addr) (N : Nt) (cap cap' m n : Nat) (q at' wy : Int) (w : World) (hright : netOk N = (0, 0)) (hn : N.pcs.length ≤ 1048576) (hs : stepOk N.pcs.length (q, wy) = true) (hP : PcsAt w a N.pcs) (hJ : JtsAt w a' N.jts) (hSE : SE w m n (seatTo N.jts N.jts.length)) :
    Calls Tryz.prog 59 #[.agg #[.slice a N.pcs.length cap, .slice a' N.jts.length cap', .map (some m)], .agg #[.int .i64 q, .int .i64 at', .int .i64 wy]] w fun e w' =>
    ∃ v, e = .returned v ∧ w'.ownsRow w.heap.size 29 3 v (nxP N (headP q wy)).length (partCells ((nxP N (headP q wy)).map (enterP N))) ∧ Below w.heap.size w w' := by
  have hsw : wy = 1 ∨ wy = -1 := by simp [stepOk] at hs; omega
  have hoke := (stepOk_ends hs).1
  dsimp only at hoke
  obtain ⟨hx, hy, hH⟩ : ∃ hx hy, headP q wy = (hx, hy) := ⟨_, _, rfl⟩
  rw [hH] at hoke ⊢
  have hwe := endOk_wf hn hoke
  obtain ⟨tk, hte, hate⟩ := seat_look hright hoke
  generalize seatJ N (hx, hy) = j at hte hate
  generalize seatI N (hx, hy) = i at hte hate
  obtain ⟨hjl, hil, _⟩ := id hate
  have hnx := nx_at hright hate hjl
  have hin : ∀ e ∈ nxP N (hx, hy), endOk N.pcs.length e = true := fun e he => (grN N hright).ok _ e he
  have hlen2 := acr_len N.jts[j] i
  rw [← hnx] at hlen2
  generalize nxP N (hx, hy) = L at hnx hin hlen2 ⊢
  have HL := hide hnx.symm
  have HIN := hide hin
  have hlL : L.length ≤ 2 := hlen2
  clear hnx hin hlen2
  have hB3 : jb3 N.pcs.length N.jts[j] = false := by rw [← jtBad3_jb3 hjl]; exact (right_facts hright).2.2.1 j hjl
  have hil4 : (i : Int) ≤ 4 ∧ (j : Int) ≤ 120 := by
    have a2 := jb3_len hB3
    have a3 := (right_facts hright).1
    simp only [sizeBad, Bool.or_eq_false_iff, decide_eq_false_iff_not] at a3
    omega
  obtain ⟨i0, hi, hz0, hz1, hz2⟩ := info_parts infoSpot
  have HI := hide hi
  have HZ0 := hide hz0
  have HZ1 := hide hz1
  have HZ2 := hide hz2
  have H3 := hide hB3
  have HH := hide hH
  have HJ := hide hJ
  have HP := hide hP
  have HSW := hide hsw
  obtain ⟨W1, hW1⟩ : ∃ W1, ((w.alloc (.cells #[.slice a N.pcs.length cap, .slice a' N.jts.length cap', .map (some m)] 70)).alloc (.cells #[.int .i64 q, .int .i64 at', .int .i64 wy] 29)) = W1 := ⟨_, rfl⟩
  have hbW : Below w.heap.size w W1 := by rw [← hW1]; exact ((Below.refl _ _).alloc (Nat.le_refl _) _).alloc (by simp) _
  have c0 : W1.cell? ⟨w.heap.size, 0, none⟩ = some (.slice a N.pcs.length cap) := by rw [← hW1]; simp [go_sem]
  have c1 : W1.cell? ⟨w.heap.size, 1, none⟩ = some (.slice a' N.jts.length cap') := by rw [← hW1]; simp [go_sem]
  have c2 : W1.cell? ⟨w.heap.size, 2, none⟩ = some (.map (some m)) := by rw [← hW1]; simp [go_sem]
  have d0 : W1.cell? ⟨w.heap.size + 1, 0, none⟩ = some (.int .i64 q) := by rw [← hW1]; simp [go_sem]
  have d1 : W1.cell? ⟨w.heap.size + 1, 1, none⟩ = some (.int .i64 at') := by rw [← hW1]; simp [go_sem]
  have d2 : W1.cell? ⟨w.heap.size + 1, 2, none⟩ = some (.int .i64 wy) := by rw [← hW1]; simp [go_sem]
  have HBS := hide (fun wx hb => bt_of (hSE.of_block (hbW.block m hSE.lt)) c2 d0 d1 d2 hwe hte (wx := wx) hb)
  have HBW := hide hbW
  have HC := hide (And.intro c0 c1)
  have hz4 := cell_lt d0
  clear hH hright hJ hP hSE hwe hte hate hoke hs hB3 hbW c0 c1 c2 d0 d1 d2 hi hz0 hz1 hz2 hsw
  go_enter Tryz.func59, Tryz.ntmps59
  go_upto_region 1 with fail
  try simp only [hW1]
  clear hW1
  go_cut [5] (fun s8 wx => ∃ b8 : Nat, s8 = .pointer (some ⟨b8, 0, none⟩) ∧ In3 wx b8 j i tk ∧ Below W1.heap.size W1 wx ∧ W1.heap.size ≤ b8)
  case first =>
    go_region_held3 (fun wx => BT W1 wx w.heap.size m q at' wy hx hy (.agg #[.int .i64 j, .int .i64 i, .int .i64 tk]))
      (first
        | (with_reducible exact HBS.out _ ((Below.refl W1.heap.size W1).drew))
        | (with_reducible exact HSF.out)
        | (exact keepBT HBS.out (by assumption) (by assumption))
        | (exact keepBT HBS.out ((Below.refl _ _).alloc (Nat.le_refl _) _) (by assumption))
        | (exact keepBT HBS.out ((Below.refl wF.heap.size wF).alloc (Nat.le_refl _) _) HSF.out)
        | (exact keepBT3 HBS.out (by omega) HSF.out _ _ _))
      (first
        | (go_at_call 88; refine (facing_at HSW.out HH.out _).mono ?_; rintro e wF ⟨rfl, hbF⟩; have HSF : Hid (BT W1 wF w.heap.size m q at' wy hx hy (.agg #[.int .i64 j, .int .i64 i, .int .i64 tk])) := keepBT HBS.out hbF (by assumption); have sF : W1.heap.size ≤ wF.heap.size := (heldB HSF.out).size; try (have y3 : Zero3 wF W1.heap.size := Zero3.later (w := (W1.alloc (.cells #[.int .i64 0, .int .i64 0, .int .i64 0] 159)).drew) (Zero3.new W1 159) hbF)))
    all_goals
      rename_i hHS
      have hbx := heldB hHS
      go_wp2_with fail
      go_meet
      first
        | exact ⟨_, rfl, In3.put y3 j i tk, hbx, by omega⟩
        | exact ⟨_, rfl, ⟨new_cell wF _ _ 0 _ rfl, new_cell wF _ _ 1 _ rfl, new_cell wF _ _ 2 _ rfl⟩, hbx, by omega⟩
  case rest =>
    obtain ⟨b8, rfl, hI3, hb1, hb8⟩ := hcut
    rename World => w1
    have HB1 := hide hb1
    have HJ1 := hide ((HJ.out.later HBW.out).later hb1)
    obtain ⟨jb, jo, ea, ec, rfl, k0, k1, k2, hEnds⟩ := HJ1.out j hjl
    have HEND := hide hEnds
    have hji : (j : Int) < (N.jts.length : Int) := by omega
    have c0 := cell_later' hb1 HC.out.1
    have c1 := cell_later' hb1 HC.out.2
    obtain ⟨i0, i1, i2'⟩ := hI3
    have HBV : Hid (BV w1 w1 w.heap.size b8 jb (jo + j * 3) (.slice a N.pcs.length cap) (.slice (some ⟨jb, jo, none⟩) N.jts.length cap') j i N.jts[j].kind N.jts[j].name (.slice ea N.jts[j].ends.length ec)) := ⟨⟨c0, c1, i0, i1, k0, k1, k2⟩, Below.refl _ _⟩
    have hw1 : w.heap.size + 1 < w1.heap.size := Nat.lt_of_lt_of_le hz4 HB1.out.size
    clear hb1 hEnds HJ1 i0 i1 i2' k0 k1 k2 c0 c1
    have h1 : Below w1.heap.size w1 w1.drew := (Below.refl _ _).drew
    go_upto_region 3 with fail
    go_cut [23, 24, 25] (fun s23 s24 s25 wx => s24 = .int .i64 L.length ∧ s25 = .int .i64 0 ∧ ∃ za zc, s23 = .slice za L.length zc ∧ Hid (EndsAt wx za L) ∧ Hid (BV w1 wx w.heap.size b8 jb (jo + j * 3) (.slice a N.pcs.length cap) (.slice (some ⟨jb, jo, none⟩) N.jts.length cap') j i N.jts[j].kind N.jts[j].name (.slice ea N.jts[j].ends.length ec)))
    case first =>
      go_region_held3 (fun wx => BV w1 wx w.heap.size b8 jb (jo + j * 3) (.slice a N.pcs.length cap) (.slice (some ⟨jb, jo, none⟩) N.jts.length cap') j i N.jts[j].kind N.jts[j].name (.slice ea N.jts[j].ends.length ec))
        (first
          | (exact keepBV h1 HBV.out)
          | (exact keepBV (by assumption) (by assumption)))
        (first
          | (go_at_call 89; refine (over_any N.pcs.length N.jts[j] ea ec i _ H3.out hil (HEND.out.later h1)).mono ?_; rintro e wO ⟨v, rfl, hNE, hbO⟩; rw [HL.out] at hNE; obtain ⟨za, zc, rfl, hEA, _⟩ := hNE; have HEA := hide hEA; clear hEA))
      all_goals
        rename_i hHS
        have HHS := hide hHS
        clear hHS
        go_wp2_with fail
        go_meet
        case rel => exact ⟨rfl, rfl, za, zc, rfl, HEA, HHS⟩
    case rest =>
      obtain ⟨rfl, rfl, za, zc, rfl, HEA, HBV2⟩ := hcut
      rename World => w2
      have hB2 := (heldB HBV2.out)
      have HB2 := hide (HBW.out.trans ((HB1.out.trans (hB2.mono HB1.out.size)).mono HBW.out.size))
      have n0 := HBV2.out.1.1
      have hlw2 := hB2.size
      clear hB2 HBV h1
      go_wp2_with fail
      go_loopw [6, 8, 25] (fun s6 _ i wr => ∃ (k : Nat), k ≤ L.length ∧ i = .int .i64 k ∧ wr.cell? ⟨w.heap.size, 0, none⟩ = some (.slice a N.pcs.length cap) ∧ Hid (wr.ownsRow w2.heap.size 29 3 s6 k (partCells ((L.take k).map (enterP N)))) ∧ Hid (∀ k (hk : k < L.length), ∃ b off, za = some ⟨b, off, none⟩ ∧ b < w2.heap.size) ∧ Hid (Below w2.heap.size w2 wr)) (fun _ _ i _ => L.length - (intOf i).toNat)
      case atStart => exact ⟨0, Nat.zero_le _, rfl, n0, World.ownsRow_nil _ _ _ _, (fun k hk => by obtain ⟨b, off, e, h1, _⟩ := HEA.out k hk; exact ⟨b, off, e, cell_lt h1⟩), Below.refl _ _⟩
      case round =>
        obtain ⟨k, hk, rfl, n0, HOW, HZA, HBR⟩ := hrel
        by_cases hlt : k < L.length
        · have hki : (k : Int) < (L.length : Int) := by omega
          obtain ⟨b, off, rfl, e0, e1⟩ := (EndsAt.later HEA.out HBR.out) k hlt
          have hE := HIN.out L[k] (List.getElem_mem hlt)
          have HTK := hide (show (L.take (k + 1)).map (enterP N) = (L.take k).map (enterP N) ++ [enterP N L[k]] by rw [List.take_succ_eq_append_getElem hlt, List.map_append]; rfl)
          generalize L[k] = ed at *
          obtain ⟨ex, ey⟩ := ed
          obtain ⟨kf, hkf, hkl, hsd⟩ : ∃ kf : Nat, ex = (kf : Int) ∧ kf < N.pcs.length ∧ (ey = 0 ∨ ey = 1) := by
            simp only [endOk, inR, Bool.and_eq_true, decide_eq_true_eq] at hE
            exact ⟨ex.toNat, by omega, by omega, by omega⟩
          subst hkf
          dsimp only at e0 e1
          have hbl := cell_lt e0
          have hwl := cell_lt n0
          have hA := (Below.refl wr.heap.size wr).alloc (Nat.le_refl _) (.cells #[.int .i64 kf, .int .i64 ey] 92)
          have HSD := hide hsd
          have HBA := hide (HBR.out.trans (hA.mono HBR.out.size))
          have HOA := hide (owns_later' HOW.out hA)
          have nA := cell_later' hA n0
          have x0 := new_cell wr #[.int .i64 kf, .int .i64 ey] 92 0 _ rfl
          have x1 := new_cell wr #[.int .i64 kf, .int .i64 ey] 92 1 _ rfl
          clear hsd hE hA
          go_upto_region 6 with fail
          generalize wr.alloc (.cells #[.int .i64 kf, .int .i64 ey] 92) = w3 at *
          generalize wr.heap.size = bE at *
          go_wp2_with fail
          refine (entry_any a N cap kf ey _ hkl HSD.out (HP.out.later (HB2.out.trans (HBA.out.mono HB2.out.size)))).mono ?_
          rintro e w4 ⟨rfl, hb4⟩
          have HO4 := hide (owns_later' HOA.out hb4)
          have HB4 := hide (HBA.out.trans (hb4.mono HBA.out.size))
          have n4 := cell_later' hb4 nA
          have hml : k + 1 ≤ maxLen := by unfold maxLen; omega
          have hs4 := HB4.out.size
          clear hb4 x0 x1 nA HOA HBA
          generalize enterP N (↑kf, ey) = sp at *
          obtain ⟨p1, p2, p3⟩ := sp
          dsimp only
          go_wp2_with (first
            | (at_builtin; (refine wpList_append_lies _ rfl _ _ _ rfl w2.heap.size 29 i0 _ 3 24 Tryz.underlying32 HI.out HZ0.out HZ1.out HZ2.out rfl (by omega) u6 k (partCells ((L.take k).map (enterP N))) rfl (HO4.out.alloc _) ⟨w4.heap.size, 0, none⟩ 1 1 [.int .i64 p1, .int .i64 p2, .int .i64 p3] rfl rfl (news_at rfl) (by simp [Value.oneCell']) (by omega) hml (by omega) (by simp; omega) _ rfl ?_); intro g2 c2' w7 hown2 hgrow2 _ hlt2))
          have HLT := hide (fun g h => (HO4.out.lt g h).1)
          have hA4 := (Below.refl w4.heap.size w4).alloc (Nat.le_refl _) (.cells #[.int .i64 p1, .int .i64 p2, .int .i64 p3] 29)
          have HB7 := hide ((HB4.out.trans (hA4.mono HB4.out.size)).grown hgrow2 (Nat.le_trans hs4 hA4.size) (fun g e => HLT.out g e))
          have n7 := hgrow2.cell (cell_later' hA4 n4) (fun e => by have hq := HLT.out w.heap.size e.symm; omega)
          refine ⟨⟨k + 1, by omega, by go_num, n7, ?_, HZA, HB7.out⟩, by simp [intOf]; omega⟩
          show World.ownsRow _ _ _ _ _ _ _
          rw [HTK.out, partCells_app']
          exact hown2
        · have e : k = L.length := by omega
          subst e
          go_wp2_with fail
          go_ret
          refine ⟨_, rfl, ?_, HB2.out.trans (HBR.out.mono HB2.out.size)⟩
          have h := HOW.out
          rw [List.take_of_length_le (Nat.le_refl _)] at h
          exact owns_low h HB2.out.size
end Go.Proofs.YtijdigdcmjdooaaGreat

/- The library's contract of slices.Clone, laid at this dump in plain words, at steps. -/
namespace Go.Proofs
open Go.Shelf
def Tryz.cloneS_ren : Go.Shelf.Ren := ⟨fun | 41 => 128 | n => n, fun | 22 => 34 | 23 => 132 | 4 => 4 | n => n, fun | n => n⟩
theorem Tryz.cloneS : Go.Proofs.SlLaysE0.n41 Tryz.prog Tryz.cloneS_ren := {
  mixed := by kernel_rfl
  f41 := ⟨Tryz.f128.name, by decide, Tryz.func128.trans (congrArg some (by kernel_rfl))⟩
  t4 := Tryz.underlying4
  a4 := Tryz.isAgg4
  z4 := Tryz.sizeOf4
  v4 := Tryz.zeroValue4
  t22 := Tryz.underlying34
  a22 := Tryz.isAgg34
  z22 := Tryz.sizeOf34
  v22 := Tryz.zeroValue34 }
end Go.Proofs

/- spec.l4lies, spec.PathLies. Own work. -/
import Derived.Test.YtplnppdlabpodaaWsA
namespace Go.Proofs.Ytplnppdlabpodaa
open Go.RowKit
set_option maxHeartbeats 8000000

set_option maxRecDepth 20000 in
theorem l4lies_any (a a' z : Option Addr) (N : Nt) (cap cap' zc : Nat) (ss : List (Int × Int)) (w : World) (_hn : N.pcs.length ≤ 1048576) (hl : N.jts.length ≤ 1048576) (hm : ∀ j ∈ N.jts, j.ends.length ≤ 1048576) (hright : netOk N = (0, 0)) (hsteps : stepsP N ss = true) (hj : JtsAt w a' N.jts) (hz : EndsAt w z ss) :
    Calls Try.prog 98 #[.agg #[.slice a N.pcs.length cap, .slice a' N.jts.length cap'], .slice z ss.length zc] w fun e w' =>
    ∃ v ok, e = .returned (.tuple #[v, .bool ok]) ∧ LiesR N ss w.heap.size v ok w' ∧ Below w.heap.size w w' := by
  obtain ⟨i0, hi, hz0, hz1, hz2⟩ := info_parts infoLie
  have HI := hide hi
  have HZ0 := hide hz0
  have HZ1 := hide hz1
  have HZ2 := hide hz2
  have HJ := hide hj
  have HZ := hide hz
  have HM := hide hm
  have HRT := hide hright
  have HSP := hide hsteps
  have h400 := hsteps
  simp only [stepsP, Bool.and_eq_true, decide_eq_true_eq] at h400
  have HALL := hide h400.2
  have h400 := h400.1
  clear hi hz0 hz1 hz2 hj hz hm hright hsteps
  have HS0 : Hid (SB w (w.alloc (.cells #[.slice a N.pcs.length cap, .slice a' N.jts.length cap'] 33)) (.slice a N.pcs.length cap) (.slice a' N.jts.length cap')) :=
    ⟨new_cell w _ _ 0 _ rfl, new_cell w _ _ 1 _ rfl, (Below.refl _ _).alloc (Nat.le_refl _) _⟩
  go_enter Try.func98, Try.ntmps98
  go_wp2_with fail
  generalize w.alloc (.cells #[.slice a N.pcs.length cap, .slice a' N.jts.length cap'] 33) = w1 at HS0 ⊢
  go_loopw [6, 7] (fun v i wr => ∃ (k t : Nat) (out : List (Int × Int)), i = .int .i64 t ∧ Hid (t = k + 1) ∧ (k + 1 ≤ ss.length ∨ k = 0) ∧ out.length ≤ k ∧ Hid (liesTo N ss k = some out) ∧ Hid (wr.ownsRow (w.heap.size + 1) 132 2 v out.length (lieCells out)) ∧ Hid (SB w wr (.slice a N.pcs.length cap) (.slice a' N.jts.length cap'))) (fun _ i _ => ss.length - (intOf i).toNat)
  case atStart => exact ⟨0, 1, [], rfl, rfl, by omega, by simp, rfl, World.ownsRow_nil _ _ _ _, HS0.out⟩
  case round =>
    obtain ⟨k, t, out, rfl, HT, hk1, hol, HTO, HOW, HSB⟩ := hrel
    by_cases hlt : t < ss.length
    · have hkl : k < ss.length := by have := HT.out; omega
      have HK2 := hide (show k + 1 < ss.length by have := HT.out; omega)
      have HT2' := hide (show t + 1 = k + 1 + 1 by have := HT.out; omega)
      obtain ⟨sb, so, rfl, c0, c1⟩ := (EndsAt.later HZ.out HSB.out.below) k hkl
      obtain ⟨sb', so', hsb, d0, d1⟩ := (EndsAt.later HZ.out HSB.out.below) t hlt
      obtain ⟨rfl, rfl⟩ : sb = sb' ∧ so = so' := by simpa using hsb
      have hgk : ss[k]! = ss[k] := by simp [hkl]
      have hA := HALL.out
      rw [List.all_eq_true] at hA
      have hO1 := hA ss[k] (List.getElem_mem hkl)
      have hO2 := hA ss[t] (List.getElem_mem hlt)
      obtain ⟨s1, s2, hes⟩ : ∃ s1 s2, ss[k] = (s1, s2) := ⟨_, _, rfl⟩
      obtain ⟨t1, t2, het⟩ : ∃ t1 t2, ss[t] = (t1, t2) := ⟨_, _, rfl⟩
      rw [hes] at c0 c1 hO1 hgk
      rw [het] at d0 d1 hO2
      have hgk1 : ss[k + 1]! = (t1, t2) := by rw [← HT.out]; simp [hlt, het]
      have HG := hide (And.intro hgk hgk1)
      obtain ⟨hx, hy, hH⟩ : ∃ hx hy, headP s1 s2 = (hx, hy) := ⟨_, _, rfl⟩
      obtain ⟨fx, fy, hF⟩ : ∃ fx fy, headP t1 (-t2) = (fx, fy) := ⟨_, _, rfl⟩
      have htw : t2 = 1 ∨ t2 = -1 := by simp [stepOk] at hO2; omega
      have HE1 := hide (show endOk N.pcs.length (hx, hy) = true by have := (stepOk_ends hO1).1; dsimp only at this; rw [hH] at this; exact this)
      have HE2 := hide (show endOk N.pcs.length (fx, fy) = true by have := (stepOk_ends hO2).2; dsimp only at this; rw [hF] at this; exact this)
      have HH := hide hH
      have HF := hide hF
      have hki : (k : Int) < (ss.length : Int) := by omega
      have hki1 : (t : Int) < (ss.length : Int) := by omega
      have hwk : IntKind.i64.wrap ((t : Int) - 1) = (k : Int) := by have := HT.out; rw [IntKind.wrap_i64]; omega
      have hsbl := cell_lt c0
      have hneg : IntKind.i64.wrap (-t2) = -t2 := by rw [IntKind.wrap_i64]; omega
      dsimp only at c0 c1 d0 d1
      have HSG : Hid (SG wr wr sb (so + k * 2) (so + t * 2) s1 s2 t1 t2) := ⟨⟨c0, c1, d0, d1⟩, Below.refl _ _⟩
      clear hsb hA hgk hgk1 c0 c1 d0 d1 hes het hH hF hO1 hO2
      go_upto_region 5 with fail
      go_cut [8] from 21 to 120 (fun s8 wx => ∃ (b8 : Nat), s8 = .pointer (some ⟨b8, 0, none⟩) ∧ (wx.cell? ⟨b8, 0, none⟩ = some (.int .i64 hx) ∧ wx.cell? ⟨b8, 1, none⟩ = some (.int .i64 hy)) ∧ Below wr.heap.size wr wx ∧ wr.heap.size ≤ b8)
      case first =>
        go_region_held3 (fun wx => SG wr wx sb (so + k * 2) (so + t * 2) s1 s2 t1 t2)
          (first
            | (exact keepSG ((Below.refl wr.heap.size wr).drew) HSG.out)
            | (exact keepSG (((Below.refl wr.heap.size wr).alloc (Nat.le_refl _) _).drew) HSG.out)
            | (exact HGB.out)
            | (exact keepSG ((Below.refl wB.heap.size wB).alloc (Nat.le_refl _) _) HGB.out)
            | (exact putSG (by omega) hsbl HGB.out _ _))
          (first
            | (go_at_call 118; refine (l3head_at HH.out _).mono ?_; rintro e wB ⟨rfl, hbB⟩; have HGB : Hid (SG wr wB sb (so + k * 2) (so + t * 2) s1 s2 t1 t2) := keepSG hbB (by assumption); have sB : wr.heap.size ≤ wB.heap.size := (heldB HGB.out).size; try (have y2 : Zero2 wB wr.heap.size := zero2_of hbB; obtain ⟨⟨y0, y1⟩, f0, f1⟩ := y2)))
        all_goals
          rename_i hHS
          have hbx := heldB hHS
          go_wp2_with fail
          go_meet
          first
            | exact ⟨_, rfl, in2_put ⟨⟨y0, y1⟩, f0, f1⟩ hx hy, hbx, by omega⟩
            | exact ⟨_, rfl, ⟨new_cell wB _ _ 0 _ rfl, new_cell wB _ _ 1 _ rfl⟩, hbx, by omega⟩
      case rest =>
        obtain ⟨b8, rfl, ⟨x0, x1⟩, hb2, hb8⟩ := hcut
        rename World => w2
        have HSB2 := hide (HSB.out.later hb2)
        have HOW2 := hide (owns_later' HOW.out hb2)
        have hs2 := hb2.size
        have HSG2 : Hid (SG w2 w2 sb (so + k * 2) (so + t * 2) s1 s2 t1 t2) := ⟨(keepSG hb2 HSG.out).1, Below.refl _ _⟩
        have hsbl2 : sb < w2.heap.size := by omega
        clear hb2 HSB HOW HSG
        go_upto_region 6 with fail
        go_cut [9] from 21 to 120 (fun s9 wx => ∃ (b9 : Nat), s9 = .pointer (some ⟨b9, 0, none⟩) ∧ (wx.cell? ⟨b9, 0, none⟩ = some (.int .i64 fx) ∧ wx.cell? ⟨b9, 1, none⟩ = some (.int .i64 fy)) ∧ Below w2.heap.size w2 wx ∧ w2.heap.size ≤ b9)
        case first =>
          clear x0 x1
          go_region_held3 (fun wx => SG w2 wx sb (so + k * 2) (so + t * 2) s1 s2 t1 t2)
            (first
              | (exact keepSG ((Below.refl w2.heap.size w2).drew) HSG2.out)
              | (exact keepSG (((Below.refl w2.heap.size w2).alloc (Nat.le_refl _) _).drew) HSG2.out)
              | (exact HGB.out)
              | (exact keepSG ((Below.refl wB.heap.size wB).alloc (Nat.le_refl _) _) HGB.out)
              | (exact putSG (by omega) hsbl2 HGB.out _ _))
            (first
              | (go_at_call 118; refine (l3head_at HF.out _).mono ?_; rintro e wB ⟨rfl, hbB⟩; have HGB : Hid (SG w2 wB sb (so + k * 2) (so + t * 2) s1 s2 t1 t2) := keepSG hbB (by assumption); have sB : w2.heap.size ≤ wB.heap.size := (heldB HGB.out).size; try (have y2 : Zero2 wB w2.heap.size := zero2_of hbB; obtain ⟨⟨y0, y1⟩, f0, f1⟩ := y2)))
          all_goals
            rename_i hHS
            have hbx := heldB hHS
            go_wp2_with fail
            go_meet
            first
              | exact ⟨_, rfl, in2_put ⟨⟨y0, y1⟩, f0, f1⟩ fx fy, hbx, by omega⟩
              | exact ⟨_, rfl, ⟨new_cell wB _ _ 0 _ rfl, new_cell wB _ _ 1 _ rfl⟩, hbx, by omega⟩
        case rest =>
          obtain ⟨b9, rfl, ⟨y0, y1⟩, hb3, hb9⟩ := hcut
          rename World => w3
          have HSB3 := hide (HSB2.out.later hb3)
          have HOW3 := hide (owns_later' HOW2.out hb3)
          have x0 := cell_later' hb3 x0
          have x1 := cell_later' hb3 x1
          have hs3 := hb3.size
          clear hb3 HSB2 HOW2 HSG2
          have n0 := HSB3.out.n0
          have n1 := HSB3.out.n1
          go_wp2_with fail
          refine (l1at_right _ _ N _ _ hx hy _ hl HM.out HRT.out HE1.out (HJ.out.later HSB3.out.below)).mono ?_
          rintro e w4 ⟨j, i, rfl, hat, hb4⟩
          have HSB4 := hide (HSB3.out.later hb4)
          have HOW4 := hide (owns_later' HOW3.out hb4)
          have y0 := cell_later' hb4 y0
          have y1 := cell_later' hb4 y1
          have hs4 := hb4.size
          clear hb4 HSB3 HOW3 n0 n1 x0 x1
          have n0 := HSB4.out.n0
          have n1 := HSB4.out.n1
          have HAT := hide hat
          obtain ⟨hjl, hil, _⟩ := hat
          have HAE := hide (show At N.jts (headP (s1, s2).1 (s1, s2).2) j i by dsimp only; rw [HH.out]; exact HAT.out)
          have hB3 : jb3 N.pcs.length N.jts[j] = false := by rw [← jtBad3_jb3 hjl]; exact (right_facts HRT.out).2.2.1 j hjl
          have H3 := hide hB3
          clear hB3
          obtain ⟨jb, jo, ea, ec, rfl, k0, kk1, k2, hEnds⟩ := (HJ.out.later HSB4.out.below) j hjl
          have HEND := hide hEnds
          have hji : (j : Int) < (N.jts.length : Int) := by omega
          have hjb := cell_lt k0
          have hnb := cell_lt n0
          clear hEnds
          go_wp2_with fail
          refine (l1across_any N.pcs.length N.jts[j] ea ec i _ H3.out hil HEND.out).mono ?_
          rintro e w5 ⟨v, rfl, hNE, hb5⟩
          obtain ⟨za, zc2, rfl, hEA, _⟩ := hNE
          have HEA := hide hEA
          have HSB5 := hide (HSB4.out.later hb5)
          have HOW5 := hide (owns_later' HOW4.out hb5)
          have y0 := cell_later' hb5 y0
          have y1 := cell_later' hb5 y1
          have k0 := cell_later' hb5 k0
          have hs5 := hb5.size
          have hal := acr_len N.jts[j] i
          clear hb5 HSB4 HOW4 n0 n1 hEA kk1 k2 HEND
          generalize hL : acr N.jts[j] i = L at *
          have HLE := hide hL
          clear hL
          go_wp2_with fail
          go_loopw [12, 14, 68] (fun mt _ ix wi => ∃ (p : Nat) (b : Bool), p ≤ L.length ∧ ix = .int .i64 p ∧ mt = .bool b ∧ Hid (b = (L.take p).any (fun e => e == (fx, fy))) ∧ Below w5.heap.size w5 wi) (fun _ _ ix _ => L.length - (intOf ix).toNat)
          case atStart => exact ⟨0, false, Nat.zero_le _, rfl, rfl, (by show false = (L.take 0).any _; simp), Below.refl _ _⟩
          case round =>
            obtain ⟨p, b, hp, rfl, rfl, HBB, hbi⟩ := hrel
            have y0 := cell_later' hbi y0
            have y1 := cell_later' hbi y1
            have hb9i := cell_lt y0
            by_cases hpl : p < L.length
            · obtain ⟨zb, zo, rfl, e0, e1⟩ := (EndsAt.later HEA.out hbi) p hpl
              have hpi : (p : Int) < (L.length : Int) := by omega
              have hzb := cell_lt e0
              have hTS := take_any_succ hpl (fun e => e == (fx, fy))
              obtain ⟨c, d, hcd⟩ : ∃ c d, L[p] = (c, d) := ⟨_, _, rfl⟩
              rw [hcd] at e0 e1 hTS
              have HTS := hide hTS
              have hA := hbi.alloc hbi.size (.cells #[.int .i64 c, .int .i64 d] 41)
              dsimp only at e0 e1
              clear hcd hTS
              cases b
              · by_cases h1 : c = fx
                · have q1 : (c == fx) = true := by rw [beq_iff_eq]; exact h1
                  by_cases h2 : d = fy
                  · have q2 : (d == fy) = true := by rw [beq_iff_eq]; exact h2
                    have HY := hide (show ((c, d) == (fx, fy)) = true by rw [beq_iff_eq, h1, h2])
                    clear h1 h2
                    go_wp2_with fail
                    refine ⟨⟨p + 1, true, by omega, by go_num, rfl, (by show true = (L.take (p + 1)).any _; rw [HTS.out, HY.out, Bool.or_true]), hA⟩, by simp [intOf]; omega⟩
                  · have q2 : (d == fy) = false := by rw [beq_eq_false_iff_ne]; exact h2
                    have HY := hide (show ((c, d) == (fx, fy)) = false by rw [beq_eq_false_iff_ne]; intro h; exact h2 (congrArg Prod.snd h))
                    clear h1 h2
                    go_wp2_with fail
                    refine ⟨⟨p + 1, false, by omega, by go_num, rfl, (by show false = (L.take (p + 1)).any _; rw [HTS.out, ← HBB.out, HY.out]; rfl), hA⟩, by simp [intOf]; omega⟩
                · have q1 : (c == fx) = false := by rw [beq_eq_false_iff_ne]; exact h1
                  have HY := hide (show ((c, d) == (fx, fy)) = false by rw [beq_eq_false_iff_ne]; intro h; exact h1 (congrArg Prod.fst h))
                  clear h1
                  go_wp2_with fail
                  refine ⟨⟨p + 1, false, by omega, by go_num, rfl, (by show false = (L.take (p + 1)).any _; rw [HTS.out, ← HBB.out, HY.out]; rfl), hA⟩, by simp [intOf]; omega⟩
              · go_wp2_with fail
                refine ⟨⟨p + 1, true, by omega, by go_num, rfl, (by show true = (L.take (p + 1)).any _; rw [HTS.out, ← HBB.out]; rfl), hA⟩, by simp [intOf]; omega⟩
            · obtain rfl : p = L.length := by omega
              have HSB6 := hide (HSB5.out.later hbi)
              have HOW6 := hide (owns_later' HOW5.out hbi)
              have k0 := cell_later' hbi k0
              have hs6 := hbi.size
              have hBB := HBB.out
              rw [List.take_length] at hBB
              have HB2 := hide hBB
              have n0 := HSB6.out.n0
              have n1 := HSB6.out.n1
              have hjb6 := cell_lt k0
              have hnb6 := cell_lt n0
              have HEO0 := hide HOW6.out
              clear hBB HBB HEA HSB5 HOW5 hbi
              cases b
              · have HNO := hide (liesQ_none HRT.out HSP.out HK2.out (liesTo_no HTO.out (by
                  rw [HG.out.1, HG.out.2]
                  refine want_no HRT.out HAE.out hjl ?_
                  dsimp only
                  rw [HF.out, HLE.out]
                  intro hin
                  have : L.any (fun e => e == (fx, fy)) = true := by rw [List.any_eq_true]; exact ⟨_, hin, by simp⟩
                  rw [← HB2.out] at this
                  cases this)))
                go_wp2_with fail
                go_ret2
                exact ⟨_, false, rfl, Or.inl ⟨HNO.out, rfl, rfl⟩, HSB6.out.below⟩
              · have HIN := hide (show headP (t1, t2).1 (-(t1, t2).2) ∈ acr N.jts[j] i by
                  have h := HB2.out.symm
                  rw [List.any_eq_true] at h
                  obtain ⟨y, hy1, hy2⟩ := h
                  rw [beq_iff_eq] at hy2
                  dsimp only
                  rw [HF.out, HLE.out, ← hy2]
                  exact hy1)
                by_cases hk3 : N.jts[j].kind = 3
                · have qk : (N.jts[j].kind != 3) = false := by rw [hk3]; rfl
                  have HK3 := hide hk3
                  clear hk3
                  go_wp2_with fail
                  refine (l1at_right _ _ N _ _ fx fy _ hl HM.out HRT.out HE2.out (HJ.out.later HSB6.out.below)).mono ?_
                  rintro e w7 ⟨j2, i2, rfl, hat2, hb7⟩
                  have HSB7 := hide (HSB6.out.later hb7)
                  have HOW7 := hide (owns_later' HOW6.out hb7)
                  have htip := want_tip HRT.out HAT.out hat2 hjl (by have h := HIN.out; rw [HF.out] at h; exact h) HK3.out
                  have HWT := hide (show liesTo N ss (k + 1) = lieAdd out j ((i : Int) + (i2 : Int)) from liesTo_succ HTO.out (by
                    rw [HG.out.1, HG.out.2]
                    exact want_3 HRT.out HAE.out (show At N.jts (headP (t1, t2).1 (-(t1, t2).2)) j2 i2 by dsimp only; rw [HF.out]; exact hat2) hjl HIN.out HK3.out))
                  have hs7 := hb7.size
                  have hne : ¬ ((i : Int) + (i2 : Int) = 0) := by omega
                  have hil2 : (i : Int) ≤ 4 ∧ (i2 : Int) ≤ 4 := by omega
                  have HNE := hide hne
                  clear hb7 HSB6 HOW6 HEO0 n0 n1 k0 hat2 htip y0 y1 hb9i hjb6 hne
                  obtain ⟨zo, zoc, rfl, hEO⟩ := lies_shape HOW7.out
                  have HEO := hide hEO
                  clear hEO
                  have hol2 : (out.length : Int) ≤ 400 := by omega
                  go_upto_region 19 with fail
                  have hA8 : Below w7.heap.size w7 (w7.alloc (.cells #[.int .i64 j, .int .i64 ((i : Int) + (i2 : Int))] 132)) := (Below.refl _ _).alloc (Nat.le_refl _) _
                  have z0 := new_cell w7 #[.int .i64 j, .int .i64 ((i : Int) + (i2 : Int))] 132 0 _ rfl
                  have z1 := new_cell w7 #[.int .i64 j, .int .i64 ((i : Int) + (i2 : Int))] 132 1 _ rfl
                  have HSB8 := hide (HSB7.out.later hA8)
                  have HOW8 := hide (owns_later' HOW7.out hA8)
                  have HEO := hide (HEO.out.later hA8)
                  have hw7 : w7.heap.size < (w7.alloc (.cells #[.int .i64 j, .int .i64 ((i : Int) + (i2 : Int))] 132)).heap.size := by simp
                  clear hA8 HSB7 HOW7
                  generalize w7.alloc (.cells #[.int .i64 j, .int .i64 ((i : Int) + (i2 : Int))] 132) = w8 at *
                  generalize w7.heap.size = b17 at *
                  generalize hlv : (i : Int) + (i2 : Int) = lv at *
                  have HLV := hide hlv
                  clear hlv
                  go_wp2_with fail
                  go_loopw [18, 20, 101] (fun ws _ ix wi => ∃ (p : Nat) (b : Bool), p ≤ out.length ∧ ix = .int .i64 p ∧ ws = .bool b ∧ Hid (b = (out.take p).any (fun y => y.1 == (j : Int))) ∧ Hid ((out.take p).any (fun y => y.1 == (j : Int) && y.2 != lv) = false) ∧ Below w8.heap.size w8 wi) (fun _ _ ix _ => out.length - (intOf ix).toNat)
                  case atStart => exact ⟨0, false, Nat.zero_le _, rfl, rfl, (by show false = (out.take 0).any _; simp), (by show (out.take 0).any _ = false; simp), Below.refl _ _⟩
                  case round =>
                    obtain ⟨p, b, hp, rfl, rfl, HBB, HNN, hbi⟩ := hrel
                    have z0 := cell_later' hbi z0
                    have z1 := cell_later' hbi z1
                    have hb17 := cell_lt z0
                    by_cases hpl : p < out.length
                    · obtain ⟨zb, zf, rfl, e0, e1⟩ := (EndsAt.later HEO.out hbi) p hpl
                      have hpi : (p : Int) < (out.length : Int) := by omega
                      have hzb := cell_lt e0
                      have hT1 := take_any_succ hpl (fun y => y.1 == (j : Int))
                      have hT2 := take_any_succ hpl (fun y => y.1 == (j : Int) && y.2 != lv)
                      have hmem := List.getElem_mem hpl
                      obtain ⟨c, d, hcd⟩ : ∃ c d, out[p] = (c, d) := ⟨_, _, rfl⟩
                      rw [hcd] at e0 e1 hT1 hT2 hmem
                      dsimp only at e0 e1 hT1 hT2
                      have HT1 := hide hT1
                      have HT2 := hide hT2
                      have HMEM := hide hmem
                      have hA := hbi.alloc hbi.size (.cells #[.int .i64 c, .int .i64 d] 132)
                      clear hcd hT1 hT2 hmem
                      by_cases h1 : c = j
                      · have q1 : (c == (j : Int)) = true := by rw [beq_iff_eq]; exact h1
                        by_cases h2 : d = lv
                        · have q2 : (d != lv) = false := by rw [bne_eq_false_iff_eq]; exact h2
                          have HQ := hide (And.intro q1 q2)
                          clear h1 h2
                          go_wp2_with fail
                          refine ⟨⟨p + 1, true, by omega, by go_num, rfl, (by show true = (out.take (p + 1)).any _; rw [HT1.out, HQ.out.1, Bool.or_true]), (by show (out.take (p + 1)).any _ = false; rw [HT2.out, HNN.out, HQ.out.2]; simp), hA⟩, by simp [intOf]; omega⟩
                        · have q2 : (d != lv) = true := by rw [bne_iff_ne]; exact h2
                          have HNO := hide (liesQ_none HRT.out HSP.out HK2.out (by
                            rw [HWT.out]
                            unfold lieAdd
                            rw [if_neg HNE.out, if_pos]
                            rw [List.any_eq_true]
                            exact ⟨(c, d), HMEM.out, by rw [Bool.and_eq_true]; exact ⟨q1, q2⟩⟩))
                          clear h1 h2
                          go_wp2_with fail
                          go_ret2
                          have hB8 := HSB8.out.below
                          exact ⟨_, false, rfl, Or.inl ⟨HNO.out, rfl, rfl⟩, hB8.trans (((hbi.alloc hbi.size _)).mono hB8.size)⟩
                      · have q1 : (c == (j : Int)) = false := by rw [beq_eq_false_iff_ne]; exact h1
                        have HQ := hide q1
                        clear h1
                        go_wp2_with fail
                        refine ⟨⟨p + 1, b, by omega, by go_num, rfl, (by show b = (out.take (p + 1)).any _; rw [HT1.out, HQ.out, Bool.or_false]; exact HBB.out), (by show (out.take (p + 1)).any _ = false; rw [HT2.out, HNN.out, HQ.out]; rfl), hA⟩, by simp [intOf]; omega⟩
                    · obtain rfl : p = out.length := by omega
                      have hB1 := HBB.out
                      have hN1 := HNN.out
                      rw [List.take_length] at hB1 hN1
                      have HSB9 := hide (HSB8.out.later hbi)
                      have HOW9 := hide (owns_later' HOW8.out hbi)
                      have hs9 := hbi.size
                      cases b
                      · have HADD := hide (show liesTo N ss (k + 1) = some (out ++ [((j : Int), lv)]) by
                          rw [HWT.out]
                          unfold lieAdd
                          rw [if_neg HNE.out, hN1, ← hB1]
                          rfl)
                        have HLT := hide (fun g h => (HOW9.out.lt g h).1)
                        have hml : out.length + 1 ≤ maxLen := by unfold maxLen; omega
                        have hsw := Nat.lt_of_lt_of_le hnb6 (Nat.le_trans hs7 (Nat.le_trans (Nat.le_of_lt hw7) hs9))
                        clear hB1 hN1 HBB HNN
                        go_wp2_with (first
                          | (at_builtin; (go_loud (refine wpList_append_lies _ rfl _ _ _ rfl (w.heap.size + 1) 132 i0 _ 2 16 Try.underlying78 HI.out HZ0.out HZ1.out HZ2.out rfl (by omega) (.slice zo out.length zoc) out.length (lieCells out) rfl (HOW9.out.alloc _) ⟨_, 0, none⟩ 1 1 [.int .i64 j, .int .i64 lv] rfl rfl (news_at rfl) (by simp [Value.oneCell']) (by omega) hml (by omega) (by simp; omega) _ rfl ?_)); intro g2 c2 w10 hown2 hgrow2 _ hlt2))
                        have HSB10 := hide ((HSB9.out.later ((Below.refl _ _).alloc (Nat.le_refl _) _)).grown hgrow2 HLT.out)
                        refine ⟨⟨k + 1, t + 1, out ++ [((j : Int), lv)], by go_num, HT2'.out, .inl HK2.out, by simp; omega, HADD.out, ?_, HSB10.out⟩, by simp [intOf]; omega⟩
                        show World.ownsRow _ _ _ _ _ _ _
                        rw [lieCells_add, List.length_append]
                        exact hown2
                      · have HADD := hide (show liesTo N ss (k + 1) = some out by
                          rw [HWT.out]
                          unfold lieAdd
                          rw [if_neg HNE.out, hN1, ← hB1]
                          rfl)
                        clear hB1 hN1 HBB HNN
                        go_wp2_with fail
                        refine ⟨⟨k + 1, t + 1, out, by go_num, HT2'.out, .inl HK2.out, by omega, HADD.out, HOW9.out, HSB9.out⟩, by simp [intOf]; omega⟩
                · have qk : (N.jts[j].kind != 3) = true := by rw [bne_iff_ne]; exact hk3
                  have HN := hide (show liesTo N ss (k + 1) = some out by
                    rw [liesTo_succ HTO.out (by rw [HG.out.1, HG.out.2]; exact want_0 HRT.out HAE.out hjl HIN.out hk3)]
                    unfold lieAdd
                    rw [if_pos rfl])
                  clear hk3
                  go_wp2_with fail
                  refine ⟨⟨k + 1, t + 1, out, by go_num, HT2'.out, .inl HK2.out, by omega, HN.out, HOW6.out, HSB6.out⟩, by simp [intOf]; omega⟩
    · have HLQ := hide (show liesQ N ss = some out by
        rw [liesQ_of HRT.out HSP.out, show ss.length - 1 = k by have := HT.out; omega]
        exact HTO.out)
      have HB := hide HSB.out.below
      go_wp2_with fail
      go_ret2
      exact ⟨_, true, rfl, Or.inr ⟨out, HLQ.out, rfl, by have := HT.out; omega, owns_low HOW.out (by omega)⟩, HB.out⟩
end Go.Proofs.Ytplnppdlabpodaa

/- between. Own work. -/
import Derived.Test.YtplnppdlabpodaaWaB
namespace Go.Proofs.Ytplnppdlabpodaa
open Go.RowKit
set_option maxHeartbeats 8000000

theorem acr_len (j : Jt) (i : Nat) : (acr j i).length ≤ 2 := by
  have h : ∀ (o : Option (Int × Int)), o.toList.length ≤ 1 := fun o => by cases o <;> simp
  unfold acr
  split
  · have := h j.ends[1 - i]?; omega
  · split
    · split
      · rw [List.length_append]
        have h1 := h j.ends[1]?
        have h2 := h j.ends[2]?
        omega
      · have := h j.ends[0]?; omega
    · split
      · have := h j.ends[(if i = 0 then 1 else if i = 1 then 0 else if i = 2 then 3 else 2)]?; omega
      · simp

theorem field1 (a b c : Int) (w : World) : (Instr.field 105 (.agg #[.int .i64 a, .int .i64 b, .int .i64 c]) 1).run Try.prog w = .ok (.int .i64 b) w := by kernel_rfl

theorem between_any (a a' : Option Addr) (N : Nt) (cap cap' m n : Nat) (s1 s2 t1 t2 : Int) (w : World) (hright : netOk N = (0, 0)) (hn : N.pcs.length ≤ 1048576) (hs : stepOk N.pcs.length (s1, s2) = true) (ht : stepOk N.pcs.length (t1, t2) = true) (hJ : JtsAt w a' N.jts) (hSE : SE w m n (seatTo N.jts N.jts.length)) :
    Calls Try.prog 128 #[.agg #[.slice a N.pcs.length cap, .slice a' N.jts.length cap', .map (some m)], .agg #[.int .i64 s1, .int .i64 s2], .agg #[.int .i64 t1, .int .i64 t2]] w fun e w' => BtwQ N (s1, s2) (t1, t2) w e w' := by
  have hsw : s2 = 1 ∨ s2 = -1 := by simp [stepOk] at hs; omega
  have htw : t2 = 1 ∨ t2 = -1 := by simp [stepOk] at ht; omega
  have hoke := (stepOk_ends hs).1
  have hokf := (stepOk_ends ht).2
  dsimp only at hoke hokf
  obtain ⟨hx, hy, hH⟩ : ∃ hx hy, headP s1 s2 = (hx, hy) := ⟨_, _, rfl⟩
  obtain ⟨fx, fy, hF⟩ : ∃ fx fy, headP t1 (-t2) = (fx, fy) := ⟨_, _, rfl⟩
  rw [hH] at hoke
  rw [hF] at hokf
  have hwe := endOk_wf hn hoke
  have hwf := endOk_wf hn hokf
  obtain ⟨tk, hte, hate⟩ := seat_look hright hoke
  obtain ⟨uk, htf, hatf⟩ := seat_look hright hokf
  generalize seatJ N (hx, hy) = j at hte hate
  generalize seatI N (hx, hy) = i at hte hate
  generalize seatJ N (fx, fy) = j2 at htf hatf
  generalize seatI N (fx, fy) = i2 at htf hatf
  have HAE := hide (show At N.jts (headP (s1, s2).1 (s1, s2).2) j i by dsimp only; rw [hH]; exact hate)
  have HAF := hide (show At N.jts (headP (t1, t2).1 (-(t1, t2).2)) j2 i2 by dsimp only; rw [hF]; exact hatf)
  obtain ⟨hjl, hil, _⟩ := hate
  have hil2 : (i2 : Int) ≤ 4 ∧ (i : Int) ≤ 4 ∧ (j : Int) ≤ 120 := by
    obtain ⟨h1, h2, _⟩ := hatf
    have a1 := jb3_len (n := N.pcs.length) (j := N.jts[j2]) (by rw [← jtBad3_jb3 h1]; exact (right_facts hright).2.2.1 j2 h1)
    have a2 := jb3_len (n := N.pcs.length) (j := N.jts[j]) (by rw [← jtBad3_jb3 hjl]; exact (right_facts hright).2.2.1 j hjl)
    have a3 := (right_facts hright).1
    simp only [sizeBad, Bool.or_eq_false_iff, decide_eq_false_iff_not] at a3
    omega
  have hB3 : jb3 N.pcs.length N.jts[j] = false := by rw [← jtBad3_jb3 hjl]; exact (right_facts hright).2.2.1 j hjl
  have H3 := hide hB3
  have HH := hide hH
  have HF := hide hF
  have HRT := hide hright
  have HJ := hide hJ
  have hbW : Below w.heap.size w ((((w.alloc (.cells #[.slice a N.pcs.length cap, .slice a' N.jts.length cap', .map (some m)] 173)).alloc (.cells #[.int .i64 s1, .int .i64 s2] 125)).alloc (.cells #[.int .i64 t1, .int .i64 t2] 125)).alloc (.cells #[.int .i64 0, .int .i64 0] 132)) := ((((Below.refl _ _).alloc (Nat.le_refl _) _).alloc (by simp) _).alloc (by simp; omega) _).alloc (by simp; omega) _
  obtain ⟨W1, hW1⟩ : ∃ W1, ((((w.alloc (.cells #[.slice a N.pcs.length cap, .slice a' N.jts.length cap', .map (some m)] 173)).alloc (.cells #[.int .i64 s1, .int .i64 s2] 125)).alloc (.cells #[.int .i64 t1, .int .i64 t2] 125)).alloc (.cells #[.int .i64 0, .int .i64 0] 132)) = W1 := ⟨_, rfl⟩
  rw [hW1] at hbW
  have c1 : W1.cell? ⟨w.heap.size, 1, none⟩ = some (.slice a' N.jts.length cap') := by rw [← hW1]; simp [go_sem]
  have c2 : W1.cell? ⟨w.heap.size, 2, none⟩ = some (.map (some m)) := by rw [← hW1]; simp [go_sem]
  have d0 : W1.cell? ⟨w.heap.size + 1, 0, none⟩ = some (.int .i64 s1) := by rw [← hW1]; simp [go_sem]
  have d1 : W1.cell? ⟨w.heap.size + 1, 1, none⟩ = some (.int .i64 s2) := by rw [← hW1]; simp [go_sem]
  have e0 : W1.cell? ⟨w.heap.size + 1 + 1, 0, none⟩ = some (.int .i64 t1) := by rw [← hW1]; simp [go_sem]
  have e1 : W1.cell? ⟨w.heap.size + 1 + 1, 1, none⟩ = some (.int .i64 t2) := by rw [← hW1]; simp [go_sem]
  have z0 : W1.cell? ⟨w.heap.size + 1 + 1 + 1, 0, none⟩ = some (.int .i64 0) := by rw [← hW1]; simp [go_sem]
  have z1 : W1.cell? ⟨w.heap.size + 1 + 1 + 1, 1, none⟩ = some (.int .i64 0) := by rw [← hW1]; simp [go_sem]
  have g0 : W1.frozen? ⟨w.heap.size + 1 + 1 + 1, 0, none⟩ = false := by rw [← hW1]; simp [go_sem]
  have g1 : W1.frozen? ⟨w.heap.size + 1 + 1 + 1, 1, none⟩ = false := by rw [← hW1]; simp [go_sem]
  have hSE1 := hSE.of_block (hbW.block m hSE.lt)
  have HLK := hide (fun wx hb => look7 hSE hwf htf (wx := wx) hb)
  have HBS := hide (fun wx hb => bs_of hSE1 c2 d0 d1 hwe hte (wx := wx) hb)
  have HLF := hide htf
  have HWF := hide hwf
  have HBW := hide hbW
  have HZ := hide (And.intro (And.intro z0 z1) (And.intro g0 g1))
  have HC := hide (And.intro c1 (And.intro c2 (And.intro e0 e1)))
  have hz4 := cell_lt z0
  clear hH hF hright hJ hSE hSE1 hwe hwf hte htf hatf hoke hokf hs ht hB3 hbW c1 c2 d0 d1 e0 e1 z0 z1 g0 g1
  go_enter Try.func128, Try.ntmps128
  go_upto_region 1 with fail
  try simp only [hW1]
  clear hW1
  go_cut [8] (fun s8 wx => ∃ b8 : Nat, s8 = .pointer (some ⟨b8, 0, none⟩) ∧ In3 wx b8 j i tk ∧ Below W1.heap.size W1 wx ∧ W1.heap.size ≤ b8)
  case first =>
    go_region_held3 (fun wx => BS W1 wx w.heap.size m s1 s2 hx hy (.agg #[.int .i64 j, .int .i64 i, .int .i64 tk]))
      (first
        | (with_reducible exact HBS.out _ ((Below.refl W1.heap.size W1).drew))
        | (with_reducible exact HSF.out)
        | (exact keepBS HBS.out (by assumption) (by assumption))
        | (exact keepBS HBS.out ((Below.refl _ _).alloc (Nat.le_refl _) _) (by assumption))
        | (exact keepBS HBS.out ((Below.refl wF.heap.size wF).alloc (Nat.le_refl _) _) HSF.out)
        | (exact keepBS3 HBS.out (by omega) HSF.out _ _ _))
      (first
        | (go_at_call 138; refine (stepTo_at hsw HH.out _).mono ?_; rintro e wF ⟨rfl, hbF⟩; have HSF : Hid (BS W1 wF w.heap.size m s1 s2 hx hy (.agg #[.int .i64 j, .int .i64 i, .int .i64 tk])) := keepBS HBS.out hbF (by assumption); have sF : W1.heap.size ≤ wF.heap.size := (heldB HSF.out).size; try (have y3 : Zero3 wF W1.heap.size := Zero3.later (w := (W1.alloc (.cells #[.int .i64 0, .int .i64 0, .int .i64 0] 105)).drew) (Zero3.new W1 105) hbF)))
    all_goals
      rename_i hHS
      have hbx := heldB hHS
      go_wp2_with fail
      go_meet
      first
        | exact ⟨_, rfl, In3.put y3 j i tk, hbx, by omega⟩
        | exact ⟨_, rfl, ⟨new_cell wF _ _ 0 _ rfl, new_cell wF _ _ 1 _ rfl, new_cell wF _ _ 2 _ rfl⟩, hbx, by omega⟩
  case rest =>
    obtain ⟨b8, rfl, hI3, hb1, hb8⟩ := hcut
    rename World => w1
    have HB1 := hide hb1
    have HJ1 := hide ((HJ.out.later HBW.out).later hb1)
    obtain ⟨jb, jo, ea, ec, rfl, k0, k1, k2, hEnds⟩ := HJ1.out j hjl
    have HEND := hide hEnds
    have hji : (j : Int) < (N.jts.length : Int) := by omega
    have c1 := cell_later' hb1 HC.out.1
    obtain ⟨i0, i1, i2'⟩ := hI3
    have hjb := cell_lt k0
    have hb8l := cell_lt i0
    clear hb1 hEnds
    have hw1 : w.heap.size + 1 + 1 + 1 < w1.heap.size := Nat.lt_of_lt_of_le hz4 HB1.out.size
    go_upto_region 3 with fail
    have hA : Below w1.heap.size w1 (w1.alloc (.cells #[.int .i64 N.jts[j].kind, .string N.jts[j].name, .slice ea N.jts[j].ends.length ec] 110)) := (Below.refl _ _).alloc (Nat.le_refl _) _
    have HB3 : Hid (B3 (w1.alloc (.cells #[.int .i64 N.jts[j].kind, .string N.jts[j].name, .slice ea N.jts[j].ends.length ec] 110)) (w1.alloc (.cells #[.int .i64 N.jts[j].kind, .string N.jts[j].name, .slice ea N.jts[j].ends.length ec] 110)).drew w1.heap.size (w.heap.size + 1 + 1) N.jts[j].kind N.jts[j].name (.slice ea N.jts[j].ends.length ec) b8 i t1 t2) :=
      ⟨⟨⟨new_cell w1 _ _ 0 _ rfl, new_cell w1 _ _ 1 _ rfl, new_cell w1 _ _ 2 _ rfl⟩, cell_later' hA.drew i1, cell_later' hA.drew (cell_later' HB1.out HC.out.2.2.1), cell_later' hA.drew (cell_later' HB1.out HC.out.2.2.2)⟩, (Below.refl _ _).drew⟩
    have i0 := cell_later' hA i0
    have i1 := cell_later' hA i1
    have m0 := new_cell w1 #[.int .i64 N.jts[j].kind, .string N.jts[j].name, .slice ea N.jts[j].ends.length ec] 110 0 _ rfl
    have HB2 := hide (HB1.out.trans (hA.mono HB1.out.size))
    have HEND := hide (HEND.out.later hA)
    have hs2 := hA.size
    clear hA HB1 c1 k0 k1 k2 HJ1 i2' hjb
    generalize w1.alloc (.cells #[.int .i64 N.jts[j].kind, .string N.jts[j].name, .slice ea N.jts[j].ends.length ec] 110) = w2 at *
    go_cut [29] (fun s29 wx => s29 = .bool (!decide ((fx, fy) ∈ acr N.jts[j] i)) ∧ Below w2.heap.size w2 wx)
    case first =>
      clear i0 i1 m0
      go_region_held3 (fun wx => B3 w2 wx w1.heap.size (w.heap.size + 1 + 1) N.jts[j].kind N.jts[j].name (.slice ea N.jts[j].ends.length ec) b8 i t1 t2)
        (first
          | (exact HB3.out)
          | (exact keepB3 (by assumption) (by assumption)))
        (first
          | (go_at_call 83; refine (over_any N.pcs.length N.jts[j] ea ec i _ H3.out hil (HEND.out.later (heldB (by assumption)))).mono ?_; rintro e wO ⟨v, rfl, hNE, hbO⟩; obtain ⟨za, zc, rfl, hEA, _⟩ := hNE; have HEA := hide hEA; clear hEA)
          | (go_at_call 140; refine (stepFrom_at htw HF.out _).mono ?_; rintro e wG ⟨rfl, hbG⟩; try (have HEA := hide (HEA.out.later hbG)))
          | (go_at_call 139; refine (containsE_any za zc (acr N.jts[j] i) fx fy _ (by have := acr_len N.jts[j] i; omega) HEA.out).mono ?_; rintro e wK ⟨rfl, hbK⟩))
      all_goals
        rename_i hHS
        have hbx := heldB hHS
        go_wp2_with fail
        go_meet
        exact ⟨rfl, hbx⟩
    case rest =>
      obtain ⟨rfl, hb3⟩ := hcut
      rename World => w3
      have i0 := cell_later' hb3 i0
      have i1 := cell_later' hb3 i1
      have m0 := cell_later' hb3 m0
      have HB3' := hide (HB2.out.trans (hb3.mono HB2.out.size))
      have hs3 := hb3.size
      clear hb3
      obtain ⟨⟨z0, z1⟩, g0, g1⟩ := HZ.out
      have g0 := frozen_later HB3'.out z0 g0
      have g1 := frozen_later HB3'.out z1 g1
      have z0 := cell_later' HB3'.out z0
      have z1 := cell_later' HB3'.out z1
      have HBZ := hide (HBW.out.trans (HB3'.out.mono HBW.out.size))
      generalize hd : decide ((fx, fy) ∈ acr N.jts[j] i) = rr
      have HD := hide hd
      clear hd
      cases rr
      case true =>
        have HIN := hide (show headP (t1, t2).1 (-(t1, t2).2) ∈ acr N.jts[j] i by dsimp only; rw [HF.out]; exact of_decide_eq_true HD.out)
        by_cases hk3 : N.jts[j].kind = 3
        · have hk : (N.jts[j].kind != 3) = false := by rw [hk3]; rfl
          have hwl := hide (want_3 HRT.out HAE.out HAF.out hjl HIN.out hk3)
          have htip := want_tip HRT.out HAE.out HAF.out hjl HIN.out hk3
          have HK3 := hide hk3
          clear hk3
          have hz3 := cell_lt z0
          have hb8' : w.heap.size + 1 + 1 + 1 < b8 := by omega
          have HB7 : Hid (B7 w w3 b8 m j i t1 t2 fx fy (.agg #[.int .i64 j2, .int .i64 i2, .int .i64 uk])) := ⟨⟨i0, i1, cell_later' HB3'.out HC.out.2.1, cell_later' HB3'.out HC.out.2.2.1, cell_later' HB3'.out HC.out.2.2.2, HLK.out _ HBZ.out⟩, HBZ.out⟩
          have HZ3 := hide (And.intro (And.intro z0 z1) (And.intro g0 g1))
          clear i0 i1 z0 z1 g0 g1
          have hf1 := field1 j2 i2 uk
          go_upto_region 7 with fail
          go_region_held3 (fun wx => B7 w wx b8 m j i t1 t2 fx fy (.agg #[.int .i64 j2, .int .i64 i2, .int .i64 uk]))
            (first
              | (exact keepB7 HLK.out ((Below.refl w3.heap.size w3).drew) HB7.out)
              | (exact HBG.out)
              | (exact putB7 HLK.out hb8' HBG.out _ _))
            (first
              | (go_at_call 140; refine (stepFrom_at htw HF.out _).mono ?_; rintro e wG ⟨rfl, hbG⟩; have HBG := hide (keepB7 HLK.out hbG (keepB7 HLK.out ((Below.refl w3.heap.size w3).drew) HB7.out)); have z0 := cell_later' (((Below.refl w3.heap.size w3).drew).trans hbG) HZ3.out.1.1; have z1 := cell_later' (((Below.refl w3.heap.size w3).drew).trans hbG) HZ3.out.1.2; have g0 := frozen_later (((Below.refl w3.heap.size w3).drew).trans hbG) HZ3.out.1.1 HZ3.out.2.1; have g1 := frozen_later (((Below.refl w3.heap.size w3).drew).trans hbG) HZ3.out.1.2 HZ3.out.2.2))
          all_goals
            go_wp2_with fail
          all_goals
            first
              | (have hl : (i : Int) + (i2 : Int) = (i : Int) := by omega
                 refine bodyPost_ret (v := .tuple #[.agg #[.int .i64 j, .int .i64 i], .bool true]) (by simp [results, Try.results128, go_sem, z0, z1]) rfl ?_
                 exact ⟨Or.inr ⟨j, i, hjl, by rw [hwl.out, hl], fun _ => by omega, fun _ => HK3.out, by omega, by omega, rfl⟩, ((heldB HBG.out).setCell (by show w.heap.size ≤ w.heap.size + 1 + 1 + 1; omega) _).setCell (by show w.heap.size ≤ w.heap.size + 1 + 1 + 1; omega) _⟩)
              | (have hl : (i : Int) + (i2 : Int) = (i2 : Int) := by omega
                 refine bodyPost_ret (v := .tuple #[.agg #[.int .i64 j, .int .i64 i2], .bool true]) (by simp [results, Try.results128, go_sem, z0, z1]) rfl ?_
                 exact ⟨Or.inr ⟨j, i2, hjl, by rw [hwl.out, hl], fun _ => by omega, fun _ => HK3.out, by omega, by omega, rfl⟩, ((heldB HBG.out).setCell (by show w.heap.size ≤ w.heap.size + 1 + 1 + 1; omega) _).setCell (by show w.heap.size ≤ w.heap.size + 1 + 1 + 1; omega) _⟩)
        · have hk : (N.jts[j].kind != 3) = true := by rw [bne_iff_ne]; exact hk3
          have HW0 := hide (want_0 HRT.out HAE.out hjl HIN.out hk3)
          have HK3 := hide hk3
          clear hk3
          have hz3 := cell_lt z0
          go_wp2_with fail
          refine bodyPost_ret (v := .tuple #[.agg #[.int .i64 j, .int .i64 0], .bool true]) (by simp [results, Try.results128, go_sem, z0, z1]) rfl ?_
          exact ⟨Or.inr ⟨j, 0, hjl, HW0.out, fun h => absurd h HK3.out, fun h => absurd rfl h, by omega, by omega, rfl⟩, (HBZ.out.setCell (by show w.heap.size ≤ w.heap.size + 1 + 1 + 1; omega) _).setCell (by show w.heap.size ≤ w.heap.size + 1 + 1 + 1; omega) _⟩
      case false =>
        have HW := hide (want_no HRT.out (b := (t1, t2)) HAE.out hjl (by dsimp only; rw [HF.out]; exact of_decide_eq_false HD.out))
        have hz3 := cell_lt z0
        go_wp2_with fail
        refine bodyPost_ret (v := .tuple #[.agg #[.int .i64 0, .int .i64 0], .bool false]) (by simp [results, Try.results128, go_sem, z0, z1]) rfl ?_
        exact ⟨Or.inl ⟨HW.out, rfl⟩, (HBZ.out.setCell (by show w.heap.size ≤ w.heap.size + 1 + 1 + 1; omega) _).setCell (by show w.heap.size ≤ w.heap.size + 1 + 1 + 1; omega) _⟩
end Go.Proofs.Ytplnppdlabpodaa

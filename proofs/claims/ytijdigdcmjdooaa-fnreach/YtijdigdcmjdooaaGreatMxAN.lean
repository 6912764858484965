/- between. Own work. -/
import Derived.Test.YtijdigdcmjdooaaGreatMxAM
import Derived.Test.YtijdigdcmjdooaaGreatMxAK
import Derived.Test.YtijdigdcmjdooaaGreatMxAE
import Derived.Test.YtijdigdcmjdooaaGreatMxAG
namespace Go.Proofs.YtijdigdcmjdooaaGreat
open Go.RowKit
set_option maxHeartbeats 8000000

theorem acr_len (j : Jt) (i : Nat) : (acr j i).length ≤ 2 := by
  have h : ∀ (o : Option (Int × Int)), o.toList.length ≤ 1 := fun o => by cases o <;> simp
  unfold acr
  split
  · have := h j.ends[1 - i]?; omega
  · split
    · split
      · rw [List.length_append]
        have h1 := h j.ends[1]?
        have h2 := h j.ends[2]?
        omega
      · have := h j.ends[0]?; omega
    · split
      · have := h j.ends[(if i = 0 then 1 else if i = 1 then 0 else if i = 2 then 3 else 2)]?; omega
      · simp

theorem field1 (a b c : Int) (w : World) : (Instr.field 159 (.agg #[.int .i64 a, .int .i64 b, .int .i64 c]) 1).run Tryz.prog w = .ok (.int .i64 b) w := by kernel_rfl

theorem between_any (a a' : Option Addr) (N : Nt) (cap cap' m n : Nat) (s1 s2 t1 t2 : Int) (w : World) (hright : netOk N = (0, 0)) (hn : N.pcs.length ≤ 1048576) (hs : stepOk N.pcs.length (s1, s2) = true) (ht : stepOk N.pcs.length (t1, t2) = true) (hJ : JtsAt w a' N.jts) (hSE : SE w m n (seatTo N.jts N.jts.length)) :
    Calls Tryz.prog 104 #[.agg #[.slice a N.pcs.length cap, .slice a' N.jts.length cap', .map (some m)], .agg #[.int .i64 s1, .int .i64 s2], .agg #[.int .i64 t1, .int .i64 t2]] w fun e w' => BtwQ N (s1, s2) (t1, t2) w e w' := by
  have hsw : s2 = 1 ∨ s2 = -1 := by simp [stepOk] at hs; omega
  have htw : t2 = 1 ∨ t2 = -1 := by simp [stepOk] at ht; omega
  have hoke := (stepOk_ends hs).1
  have hokf := (stepOk_ends ht).2
  dsimp only at hoke hokf
  obtain ⟨hx, hy, hH⟩ : ∃ hx hy, headP s1 s2 = (hx, hy) := ⟨_, _, rfl⟩
  obtain ⟨fx, fy, hF⟩ : ∃ fx fy, headP t1 (-t2) = (fx, fy) := ⟨_, _, rfl⟩
  rw [hH] at hoke
  rw [hF] at hokf
  have hwe := endOk_wf hn hoke
  have hwf := endOk_wf hn hokf
  obtain ⟨tk, hte, hate⟩ := seat_look hright hoke
  obtain ⟨uk, htf, hatf⟩ := seat_look hright hokf
  generalize seatJ N (hx, hy) = j at hte hate
  generalize seatI N (hx, hy) = i at hte hate
  generalize seatJ N (fx, fy) = j2 at htf hatf
  generalize seatI N (fx, fy) = i2 at htf hatf
  have HAE := hide (show At N.jts (headP (s1, s2).1 (s1, s2).2) j i by dsimp only; rw [hH]; exact hate)
  have HAF := hide (show At N.jts (headP (t1, t2).1 (-(t1, t2).2)) j2 i2 by dsimp only; rw [hF]; exact hatf)
  obtain ⟨hjl, hil, _⟩ := hate
  have hil2 : (i2 : Int) ≤ 4 ∧ (i : Int) ≤ 4 ∧ (j : Int) ≤ 120 := by
    obtain ⟨h1, h2, _⟩ := hatf
    have a1 := jb3_len (n := N.pcs.length) (j := N.jts[j2]) (by rw [← jtBad3_jb3 h1]; exact (right_facts hright).2.2.1 j2 h1)
    have a2 := jb3_len (n := N.pcs.length) (j := N.jts[j]) (by rw [← jtBad3_jb3 hjl]; exact (right_facts hright).2.2.1 j hjl)
    have a3 := (right_facts hright).1
    simp only [sizeBad, Bool.or_eq_false_iff, decide_eq_false_iff_not] at a3
    omega
  have hB3 : jb3 N.pcs.length N.jts[j] = false := by rw [← jtBad3_jb3 hjl]; exact (right_facts hright).2.2.1 j hjl
  have H3 := hide hB3
  have HH := hide hH
  have HF := hide hF
  have HRT := hide hright
  have HJ := hide hJ
  have hbW : Below w.heap.size w ((((w.alloc (.cells #[.slice a N.pcs.length cap, .slice a' N.jts.length cap', .map (some m)] 70)).alloc (.cells #[.int .i64 s1, .int .i64 s2] 132)).alloc (.cells #[.int .i64 t1, .int .i64 t2] 132)).alloc (.cells #[.int .i64 0, .int .i64 0] 177)) := ((((Below.refl _ _).alloc (Nat.le_refl _) _).alloc (by simp) _).alloc (by simp; omega) _).alloc (by simp; omega) _
  obtain ⟨W1, hW1⟩ : ∃ W1, ((((w.alloc (.cells #[.slice a N.pcs.length cap, .slice a' N.jts.length cap', .map (some m)] 70)).alloc (.cells #[.int .i64 s1, .int .i64 s2] 132)).alloc (.cells #[.int .i64 t1, .int .i64 t2] 132)).alloc (.cells #[.int .i64 0, .int .i64 0] 177)) = W1 := ⟨_, rfl⟩
  rw [hW1] at hbW
  have c1 : W1.cell? ⟨w.heap.size, 1, none⟩ = some (.slice a' N.jts.length cap') := by rw [← hW1]; simp [go_sem]
  have c2 : W1.cell? ⟨w.heap.size, 2, none⟩ = some (.map (some m)) := by rw [← hW1]; simp [go_sem]
  have d0 : W1.cell? ⟨w.heap.size + 1, 0, none⟩ = some (.int .i64 s1) := by rw [← hW1]; simp [go_sem]
  have d1 : W1.cell? ⟨w.heap.size + 1, 1, none⟩ = some (.int .i64 s2) := by rw [← hW1]; simp [go_sem]
  have e0 : W1.cell? ⟨w.heap.size + 1 + 1, 0, none⟩ = some (.int .i64 t1) := by rw [← hW1]; simp [go_sem]
  have e1 : W1.cell? ⟨w.heap.size + 1 + 1, 1, none⟩ = some (.int .i64 t2) := by rw [← hW1]; simp [go_sem]
  have z0 : W1.cell? ⟨w.heap.size + 1 + 1 + 1, 0, none⟩ = some (.int .i64 0) := by rw [← hW1]; simp [go_sem]
  have z1 : W1.cell? ⟨w.heap.size + 1 + 1 + 1, 1, none⟩ = some (.int .i64 0) := by rw [← hW1]; simp [go_sem]
  have g0 : W1.frozen? ⟨w.heap.size + 1 + 1 + 1, 0, none⟩ = false := by rw [← hW1]; simp [go_sem]
  have g1 : W1.frozen? ⟨w.heap.size + 1 + 1 + 1, 1, none⟩ = false := by rw [← hW1]; simp [go_sem]
  have hSE1 := hSE.of_block (hbW.block m hSE.lt)
  have HLK := hide (fun wx hb => look7 hSE hwf htf (wx := wx) hb)
  have HBS := hide (fun wx hb => bs_of hSE1 c2 d0 d1 hwe hte (wx := wx) hb)
  have HLF := hide htf
  have HWF := hide hwf
  have HBW := hide hbW
  have HZ := hide (And.intro (And.intro z0 z1) (And.intro g0 g1))
  have HC := hide (And.intro c1 (And.intro c2 (And.intro e0 e1)))
  have hz4 := cell_lt z0
  clear hH hF hright hJ hSE hSE1 hwe hwf hte htf hatf hoke hokf hs ht hB3 hbW c1 c2 d0 d1 e0 e1 z0 z1 g0 g1
  go_enter Tryz.func104, Tryz.ntmps104
  go_upto_region 1 with fail
  try simp only [hW1]
  clear hW1
  go_cut [8] (fun s8 wx => ∃ b8 : Nat, s8 = .pointer (some ⟨b8, 0, none⟩) ∧ In3 wx b8 j i tk ∧ Below W1.heap.size W1 wx ∧ W1.heap.size ≤ b8)
  case first =>
    go_region_held3 (fun wx => BS W1 wx w.heap.size m s1 s2 hx hy (.agg #[.int .i64 j, .int .i64 i, .int .i64 tk]))
      (first
        | (with_reducible exact HBS.out _ ((Below.refl W1.heap.size W1).drew))
        | (with_reducible exact HSF.out)
        | (exact keepBS HBS.out (by assumption) (by assumption))
        | (exact keepBS HBS.out ((Below.refl _ _).alloc (Nat.le_refl _) _) (by assumption))
        | (exact keepBS HBS.out ((Below.refl wF.heap.size wF).alloc (Nat.le_refl _) _) HSF.out)
        | (exact keepBS3 HBS.out (by omega) HSF.out _ _ _))
      (first
        | (go_at_call 130; refine (stepTo_at hsw HH.out _).mono ?_; rintro e wF ⟨rfl, hbF⟩; have HSF : Hid (BS W1 wF w.heap.size m s1 s2 hx hy (.agg #[.int .i64 j, .int .i64 i, .int .i64 tk])) := keepBS HBS.out hbF (by assumption); have sF : W1.heap.size ≤ wF.heap.size := (heldB HSF.out).size; try (have y3 : Zero3 wF W1.heap.size := Zero3.later (w := (W1.alloc (.cells #[.int .i64 0, .int .i64 0, .int .i64 0] 159)).drew) (Zero3.new W1 159) hbF)))
    all_goals
      rename_i hHS
      have hbx := heldB hHS
      go_wp2_with fail
      go_meet
      first
        | exact ⟨_, rfl, In3.put y3 j i tk, hbx, by omega⟩
        | exact ⟨_, rfl, ⟨new_cell wF _ _ 0 _ rfl, new_cell wF _ _ 1 _ rfl, new_cell wF _ _ 2 _ rfl⟩, hbx, by omega⟩
  case rest =>
    obtain ⟨b8, rfl, hI3, hb1, hb8⟩ := hcut
    rename World => w1
    have HB1 := hide hb1
    have HJ1 := hide ((HJ.out.later HBW.out).later hb1)
    obtain ⟨jb, jo, ea, ec, rfl, k0, k1, k2, hEnds⟩ := HJ1.out j hjl
    have HEND := hide hEnds
    have hji : (j : Int) < (N.jts.length : Int) := by omega
    have c1 := cell_later' hb1 HC.out.1
    obtain ⟨i0, i1, i2'⟩ := hI3
    have hjb := cell_lt k0
    have hb8l := cell_lt i0
    clear hb1 hEnds
    have hw1 : w.heap.size + 1 + 1 + 1 < w1.heap.size := Nat.lt_of_lt_of_le hz4 HB1.out.size
    go_upto_region 3 with fail
    have hA : Below w1.heap.size w1 (w1.alloc (.cells #[.int .i64 N.jts[j].kind, .string N.jts[j].name, .slice ea N.jts[j].ends.length ec] 97)) := (Below.refl _ _).alloc (Nat.le_refl _) _
    have HB3 : Hid (B3 (w1.alloc (.cells #[.int .i64 N.jts[j].kind, .string N.jts[j].name, .slice ea N.jts[j].ends.length ec] 97)) (w1.alloc (.cells #[.int .i64 N.jts[j].kind, .string N.jts[j].name, .slice ea N.jts[j].ends.length ec] 97)).drew w1.heap.size (w.heap.size + 1 + 1) N.jts[j].kind N.jts[j].name (.slice ea N.jts[j].ends.length ec) b8 i t1 t2) :=
      ⟨⟨⟨new_cell w1 _ _ 0 _ rfl, new_cell w1 _ _ 1 _ rfl, new_cell w1 _ _ 2 _ rfl⟩, cell_later' hA.drew i1, cell_later' hA.drew (cell_later' HB1.out HC.out.2.2.1), cell_later' hA.drew (cell_later' HB1.out HC.out.2.2.2)⟩, (Below.refl _ _).drew⟩
    have i0 := cell_later' hA i0
    have i1 := cell_later' hA i1
    have m0 := new_cell w1 #[.int .i64 N.jts[j].kind, .string N.jts[j].name, .slice ea N.jts[j].ends.length ec] 97 0 _ rfl
    have HB2 := hide (HB1.out.trans (hA.mono HB1.out.size))
    have HEND := hide (HEND.out.later hA)
    have hs2 := hA.size
    clear hA HB1 c1 k0 k1 k2 HJ1 i2' hjb
    generalize w1.alloc (.cells #[.int .i64 N.jts[j].kind, .string N.jts[j].name, .slice ea N.jts[j].ends.length ec] 97) = w2 at *
    go_cut [29] (fun s29 wx => s29 = .bool (!decide ((fx, fy) ∈ acr N.jts[j] i)) ∧ Below w2.heap.size w2 wx)
    case first =>
      clear i0 i1 m0
      go_region_held3 (fun wx => B3 w2 wx w1.heap.size (w.heap.size + 1 + 1) N.jts[j].kind N.jts[j].name (.slice ea N.jts[j].ends.length ec) b8 i t1 t2)
        (first
          | (exact HB3.out)
          | (exact keepB3 (by assumption) (by assumption)))
        (first
          | (go_at_call 89; refine (over_any N.pcs.length N.jts[j] ea ec i _ H3.out hil (HEND.out.later (heldB (by assumption)))).mono ?_; rintro e wO ⟨v, rfl, hNE, hbO⟩; obtain ⟨za, zc, rfl, hEA, _⟩ := hNE; have HEA := hide hEA; clear hEA)
          | (go_at_call 102; refine (stepFrom_at htw HF.out _).mono ?_; rintro e wG ⟨rfl, hbG⟩; try (have HEA := hide (HEA.out.later hbG)))
          | (go_at_call 131; refine (containsE_any za zc (acr N.jts[j] i) fx fy _ (by have := acr_len N.jts[j] i; omega) HEA.out).mono ?_; rintro e wK ⟨rfl, hbK⟩))
      all_goals
        rename_i hHS
        have hbx := heldB hHS
        go_wp2_with fail
        go_meet
        exact ⟨rfl, hbx⟩
    case rest =>
      obtain ⟨rfl, hb3⟩ := hcut
      rename World => w3
      have i0 := cell_later' hb3 i0
      have i1 := cell_later' hb3 i1
      have m0 := cell_later' hb3 m0
      have HB3' := hide (HB2.out.trans (hb3.mono HB2.out.size))
      have hs3 := hb3.size
      clear hb3
      obtain ⟨⟨z0, z1⟩, g0, g1⟩ := HZ.out
      have g0 := frozen_later HB3'.out z0 g0
      have g1 := frozen_later HB3'.out z1 g1
      have z0 := cell_later' HB3'.out z0
      have z1 := cell_later' HB3'.out z1
      have HBZ := hide (HBW.out.trans (HB3'.out.mono HBW.out.size))
      generalize hd : decide ((fx, fy) ∈ acr N.jts[j] i) = rr
      have HD := hide hd
      clear hd
      cases rr
      case true =>
        have HIN := hide (show headP (t1, t2).1 (-(t1, t2).2) ∈ acr N.jts[j] i by dsimp only; rw [HF.out]; exact of_decide_eq_true HD.out)
        by_cases hk3 : N.jts[j].kind = 3
        · have hk : (N.jts[j].kind != 3) = false := by rw [hk3]; rfl
          have hwl := hide (want_3 HRT.out HAE.out HAF.out hjl HIN.out hk3)
          have htip := want_tip HRT.out HAE.out HAF.out hjl HIN.out hk3
          have HK3 := hide hk3
          clear hk3
          have hz3 := cell_lt z0
          have hb8' : w.heap.size + 1 + 1 + 1 < b8 := by omega
          have HB7 : Hid (B7 w w3 b8 m j i t1 t2 fx fy (.agg #[.int .i64 j2, .int .i64 i2, .int .i64 uk])) := ⟨⟨i0, i1, cell_later' HB3'.out HC.out.2.1, cell_later' HB3'.out HC.out.2.2.1, cell_later' HB3'.out HC.out.2.2.2, HLK.out _ HBZ.out⟩, HBZ.out⟩
          have HZ3 := hide (And.intro (And.intro z0 z1) (And.intro g0 g1))
          clear i0 i1 z0 z1 g0 g1
          have hf1 := field1 j2 i2 uk
          go_upto_region 7 with fail
          go_region_held3 (fun wx => B7 w wx b8 m j i t1 t2 fx fy (.agg #[.int .i64 j2, .int .i64 i2, .int .i64 uk]))
            (first
              | (exact keepB7 HLK.out ((Below.refl w3.heap.size w3).drew) HB7.out)
              | (exact HBG.out)
              | (exact putB7 HLK.out hb8' HBG.out _ _))
            (first
              | (go_at_call 102; refine (stepFrom_at htw HF.out _).mono ?_; rintro e wG ⟨rfl, hbG⟩; have HBG := hide (keepB7 HLK.out hbG (keepB7 HLK.out ((Below.refl w3.heap.size w3).drew) HB7.out)); have z0 := cell_later' (((Below.refl w3.heap.size w3).drew).trans hbG) HZ3.out.1.1; have z1 := cell_later' (((Below.refl w3.heap.size w3).drew).trans hbG) HZ3.out.1.2; have g0 := frozen_later (((Below.refl w3.heap.size w3).drew).trans hbG) HZ3.out.1.1 HZ3.out.2.1; have g1 := frozen_later (((Below.refl w3.heap.size w3).drew).trans hbG) HZ3.out.1.2 HZ3.out.2.2))
          all_goals
            go_wp2_with fail
          all_goals
            first
              | (have hl : (i : Int) + (i2 : Int) = (i : Int) := by omega
                 refine bodyPost_ret (v := .tuple #[.agg #[.int .i64 j, .int .i64 i], .bool true]) (by simp [results, Tryz.results104, go_sem, z0, z1]) rfl ?_
                 exact ⟨Or.inr ⟨j, i, hjl, by rw [hwl.out, hl], fun _ => by omega, fun _ => HK3.out, by omega, by omega, rfl⟩, ((heldB HBG.out).setCell (by show w.heap.size ≤ w.heap.size + 1 + 1 + 1; omega) _).setCell (by show w.heap.size ≤ w.heap.size + 1 + 1 + 1; omega) _⟩)
              | (have hl : (i : Int) + (i2 : Int) = (i2 : Int) := by omega
                 refine bodyPost_ret (v := .tuple #[.agg #[.int .i64 j, .int .i64 i2], .bool true]) (by simp [results, Tryz.results104, go_sem, z0, z1]) rfl ?_
                 exact ⟨Or.inr ⟨j, i2, hjl, by rw [hwl.out, hl], fun _ => by omega, fun _ => HK3.out, by omega, by omega, rfl⟩, ((heldB HBG.out).setCell (by show w.heap.size ≤ w.heap.size + 1 + 1 + 1; omega) _).setCell (by show w.heap.size ≤ w.heap.size + 1 + 1 + 1; omega) _⟩)
        · have hk : (N.jts[j].kind != 3) = true := by rw [bne_iff_ne]; exact hk3
          have HW0 := hide (want_0 HRT.out HAE.out hjl HIN.out hk3)
          have HK3 := hide hk3
          clear hk3
          have hz3 := cell_lt z0
          go_wp2_with fail
          refine bodyPost_ret (v := .tuple #[.agg #[.int .i64 j, .int .i64 0], .bool true]) (by simp [results, Tryz.results104, go_sem, z0, z1]) rfl ?_
          exact ⟨Or.inr ⟨j, 0, hjl, HW0.out, fun h => absurd h HK3.out, fun h => absurd rfl h, by omega, by omega, rfl⟩, (HBZ.out.setCell (by show w.heap.size ≤ w.heap.size + 1 + 1 + 1; omega) _).setCell (by show w.heap.size ≤ w.heap.size + 1 + 1 + 1; omega) _⟩
      case false =>
        have HW := hide (want_no HRT.out (b := (t1, t2)) HAE.out hjl (by dsimp only; rw [HF.out]; exact of_decide_eq_false HD.out))
        have hz3 := cell_lt z0
        go_wp2_with fail
        refine bodyPost_ret (v := .tuple #[.agg #[.int .i64 0, .int .i64 0], .bool false]) (by simp [results, Tryz.results104, go_sem, z0, z1]) rfl ?_
        exact ⟨Or.inl ⟨HW.out, rfl⟩, (HBZ.out.setCell (by show w.heap.size ≤ w.heap.size + 1 + 1 + 1; omega) _).setCell (by show w.heap.size ≤ w.heap.size + 1 + 1 + 1; omega) _⟩
end Go.Proofs.YtijdigdcmjdooaaGreat

/- Reach: plain. Own work. -/
namespace Go.Proofs.YtijdigdcmjdooaaGreat
open Go.RowKit

/-- A drive: the spot to which it has come, and what is left to drive from there. -/
abbrev Dv := (Int × Int × Int) × Int
def roomS (N : Nt) (s : Int × Int × Int) : Int := roomP N s.1 s.2.1 s.2.2
def spotS (N : Nt) (s : Int × Int × Int) : Bool := spotP N s.1 s.2.1 s.2.2
def sonsR (N : Nt) (c : Dv) : List Dv := (nxP N (headP c.1.1 c.1.2.2)).map fun e => (enterP N e, c.2 - roomS N c.1)
def endsR (N : Nt) (x : Dv) : Bool := decide (x.2 ≤ roomS N x.1)
def toldR (x : Dv) : Int × Int × Int := (x.1.1, x.1.2.1 + x.2 * x.1.2.2, x.1.2.2)
def addO {α : Type} [DecidableEq α] (l : List α) (x : α) : List α := if x ∈ l then l else l ++ [x]
def stepR (N : Nt) (st : List (Int × Int × Int) × List Dv) (x : Dv) : List (Int × Int × Int) × List Dv := if endsR N x then (addO st.1 (toldR x), st.2) else (st.1, addO st.2 x)
def runR (N : Nt) (st : List (Int × Int × Int) × List Dv) (xs : List Dv) : List (Int × Int × Int) × List Dv := xs.foldl (stepR N) st
def candsR (N : Nt) (line : List Dv) : List Dv := line.flatMap (sonsR N)
def roundR (N : Nt) (out : List (Int × Int × Int)) (line : List Dv) : List (Int × Int × Int) × List Dv := runR N (out, []) (candsR N line)
def muchR (st : List (Int × Int × Int) × List Dv) : Bool := decide (200 < st.1.length) || decide (1000 < st.2.length)
/-- What is told when so many rounds may still come to an end; none: too much. -/
def goR (N : Nt) : Nat → List (Int × Int × Int) → List Dv → Option (List (Int × Int × Int))
  | _, out, [] => some out
  | 0, _, _ :: _ => none
  | k + 1, out, c :: line => if muchR (roundR N out (c :: line)) then none else goR N k (roundR N out (c :: line)).1 (roundR N out (c :: line)).2
theorem goR_nil (N : Nt) (k : Nat) (out) : goR N k out [] = some out := by cases k <;> rfl
theorem goR_zero (N : Nt) (out) {line : List Dv} (h : line ≠ []) : goR N 0 out line = none := by
  cases line with
  | nil => exact absurd rfl h
  | cons c l => rfl
theorem goR_much {N : Nt} {k : Nat} {out} {line : List Dv} (h : line ≠ []) (hm : muchR (roundR N out line) = true) : goR N k out line = none := by
  cases line with
  | nil => exact absurd rfl h
  | cons c l =>
    cases k with
    | zero => rfl
    | succ k => rw [goR, if_pos hm]
theorem goR_on {N : Nt} {k : Nat} {out} {line : List Dv} (h : line ≠ []) (hm : muchR (roundR N out line) = false) : goR N (k + 1) out line = goR N k (roundR N out line).1 (roundR N out line).2 := by
  cases line with
  | nil => exact absurd rfl h
  | cons c l => rw [goR, hm]; rfl
/-- The order of spots. -/
def ltS (a b : Int × Int × Int) : Bool := if a.1 ≠ b.1 then decide (a.1 < b.1) else if a.2.1 ≠ b.2.1 then decide (a.2.1 < b.2.1) else decide (a.2.2 < b.2.2)
def leS (a b : Int × Int × Int) : Bool := !ltS b a
/-- What is told at a right spot. -/
def reachR (N : Nt) (s : Int × Int × Int) (far : Int) : List (Int × Int × Int) :=
  match goR N 1000 (stepR N ([], []) (s, far)).1 (stepR N ([], []) (s, far)).2 with
  | none => []
  | some out => out.mergeSort leS
def reachP (N : Nt) (s : Int × Int × Int) (far : Int) : List (Int × Int × Int) := if (decide (netOk N = (0, 0)) && spotS N s) && inR far 0 1000000 then reachR N s far else []

/-! ### Lists without doubles -/
theorem addO_nodup {α : Type} [DecidableEq α] {l : List α} (h : l.Nodup) (x : α) : (addO l x).Nodup := by
  unfold addO
  split
  · exact h
  · rename_i hx
    exact List.nodup_append.2 ⟨h, by simp, fun a ha b hb => by simp at hb; subst hb; exact fun e => hx (e ▸ ha)⟩
theorem mem_addO {α : Type} [DecidableEq α] {l : List α} {x y : α} : y ∈ addO l x ↔ y ∈ l ∨ y = x := by
  unfold addO
  split
  · rename_i h
    exact ⟨.inl, fun h' => h'.elim id (fun e => e ▸ h)⟩
  · simp
theorem addO_in {α : Type} [DecidableEq α] {l : List α} {x : α} (h : x ∈ l) : addO l x = l := if_pos h
theorem addO_new {α : Type} [DecidableEq α] {l : List α} {x : α} (h : x ∉ l) : addO l x = l ++ [x] := if_neg h
theorem addO_len {α : Type} [DecidableEq α] (l : List α) (x : α) : l.length ≤ (addO l x).length ∧ (addO l x).length ≤ l.length + 1 := by
  unfold addO
  split <;> simp

/-! ### What has been seen in a round -/
structure SeenI (N : Nt) (seen : List Dv) (st : List (Int × Int × Int) × List Dv) : Prop where
  told : ∀ x ∈ seen, endsR N x = true → toldR x ∈ st.1
  went : ∀ x ∈ seen, endsR N x = false → x ∈ st.2
  all : ∀ x ∈ st.2, x ∈ seen
theorem SeenI.start (N : Nt) (out) : SeenI N [] (out, []) := ⟨by simp, by simp, by simp⟩
theorem SeenI.old {N : Nt} {seen : List Dv} {st} (h : SeenI N seen st) {x : Dv} (hx : x ∈ seen) : stepR N st x = st := by
  unfold stepR
  split
  · rename_i he
    rw [addO_in (h.told x hx he)]
  · rename_i he
    rw [addO_in (h.went x hx (by simpa using he))]
theorem SeenI.new_go {N : Nt} {seen : List Dv} {st} (h : SeenI N seen st) {x : Dv} (hx : x ∉ seen) (he : endsR N x = false) : stepR N st x = (st.1, st.2 ++ [x]) := by
  unfold stepR
  rw [he, if_neg (by simp), addO_new (fun hm => hx (h.all x hm))]
theorem step_end {N : Nt} {st} {x : Dv} (he : endsR N x = true) : stepR N st x = (addO st.1 (toldR x), st.2) := if_pos he
theorem step_go {N : Nt} {st} {x : Dv} (he : endsR N x = false) : stepR N st x = (st.1, addO st.2 x) := if_neg (by rw [he]; simp)
theorem SeenI.step {N : Nt} {seen : List Dv} {st} (h : SeenI N seen st) (x : Dv) : SeenI N (x :: seen) (stepR N st x) := by
  cases he : endsR N x with
  | true =>
    rw [step_end he]
    refine ⟨fun y hy hy' => mem_addO.2 ?_, fun y hy hy' => ?_, fun y hy => List.mem_cons_of_mem _ (h.all y hy)⟩
    · rcases List.mem_cons.1 hy with rfl | hy
      · exact .inr rfl
      · exact .inl (h.told y hy hy')
    · rcases List.mem_cons.1 hy with rfl | hy
      · rw [he] at hy'; cases hy'
      · exact h.went y hy hy'
  | false =>
    rw [step_go he]
    refine ⟨fun y hy hy' => ?_, fun y hy hy' => mem_addO.2 ?_, fun y hy => ?_⟩
    · rcases List.mem_cons.1 hy with rfl | hy
      · rw [he] at hy'; cases hy'
      · exact h.told y hy hy'
    · rcases List.mem_cons.1 hy with rfl | hy
      · exact .inr rfl
      · exact .inl (h.went y hy hy')
    · rcases mem_addO.1 hy with hy | rfl
      · exact List.mem_cons_of_mem _ (h.all y hy)
      · exact List.mem_cons_self ..

/-! ### What is right all along -/
structure DvOk (N : Nt) (F : Int) (x : Dv) : Prop where
  spot : spotS N x.1 = true
  left : 0 ≤ x.2 ∧ x.2 ≤ F
/-- The state of a round: so many drives have been looked at. -/
structure RdI (N : Nt) (F : Int) (n m : Nat) (st : List (Int × Int × Int) × List Dv) : Prop where
  out : ∀ s ∈ st.1, spotS N s = true
  nd : st.1.Nodup
  line : ∀ x ∈ st.2, DvOk N F x ∧ endsR N x = false
  few : st.1.length ≤ n
  fewL : st.2.length ≤ m
theorem spot_facts {N : Nt} {s : Int × Int × Int} (h : spotS N s = true) : 0 ≤ s.1 ∧ s.1 < N.pcs.length ∧ (s.2.2 = 1 ∨ s.2.2 = -1) ∧ 0 ≤ s.2.1 ∧ s.2.1 ≤ lenAt N s.1 := by
  simp only [spotS, spotP, inR, Bool.and_eq_true, decide_eq_true_eq, Bool.or_eq_true, beq_iff_eq] at h
  omega
theorem spot_of {N : Nt} {s : Int × Int × Int} (h : 0 ≤ s.1 ∧ s.1 < N.pcs.length ∧ (s.2.2 = 1 ∨ s.2.2 = -1) ∧ 0 ≤ s.2.1 ∧ s.2.1 ≤ lenAt N s.1) : spotS N s = true := by
  simp only [spotS, spotP, inR, Bool.and_eq_true, decide_eq_true_eq, Bool.or_eq_true, beq_iff_eq]
  omega
theorem told_ok {N : Nt} {F : Int} {x : Dv} (h : DvOk N F x) (he : endsR N x = true) : spotS N (toldR x) = true := by
  have hs := spot_facts h.spot
  have hl := h.left
  obtain ⟨⟨q, a, y⟩, l⟩ := x
  simp only [endsR, roomS, roomP, decide_eq_true_eq] at he
  refine spot_of ?_
  unfold toldR
  dsimp only at *
  rcases hs.2.2.1 with rfl | rfl
  · rw [if_pos rfl] at he
    omega
  · rw [if_neg (by decide)] at he
    omega
theorem RdI.step {N : Nt} {F : Int} {n m : Nat} {st} (h : RdI N F n m st) {x : Dv} (hx : DvOk N F x) : RdI N F (n + 1) (m + 1) (stepR N st x) := by
  cases he : endsR N x with
  | true =>
    rw [step_end he]
    refine ⟨fun s hs => ?_, addO_nodup h.nd _, h.line, Nat.le_trans (addO_len _ _).2 (Nat.succ_le_succ h.few), Nat.le_succ_of_le h.fewL⟩
    rcases mem_addO.1 hs with hs | rfl
    · exact h.out s hs
    · exact told_ok hx he
  | false =>
    rw [step_go he]
    refine ⟨h.out, h.nd, fun y hy => ?_, Nat.le_succ_of_le h.few, Nat.le_trans (addO_len _ _).2 (Nat.succ_le_succ h.fewL)⟩
    rcases mem_addO.1 hy with hy | rfl
    · exact h.line y hy
    · exact ⟨hx, he⟩
theorem sons_ok {N : Nt} (hr : netOk N = (0, 0)) {F : Int} {c : Dv} (h : DvOk N F c) (he : endsR N c = false) : ∀ x ∈ sonsR N c, DvOk N F x ∧ 0 < x.2 := by
  intro x hx
  obtain ⟨e, hm, rfl⟩ := List.mem_map.1 hx
  have hs := spot_facts h.spot
  have hok := enterP_ok hr ((grN N hr).ok _ e hm)
  simp only [endsR, decide_eq_false_iff_not] at he
  have hroom : 0 ≤ roomS N c.1 := by
    unfold roomS roomP
    split <;> omega
  have hl := h.left
  exact ⟨⟨hok, by dsimp only; omega, by dsimp only; omega⟩, by dsimp only; omega⟩
theorem sons_len (N : Nt) (c : Dv) : (sonsR N c).length ≤ 2 := by
  unfold sonsR
  rw [List.length_map]
  unfold nxP
  split
  · exact acr_len _ _
  · simp
theorem room_le' {N : Nt} (hr : netOk N = (0, 0)) {s : Int × Int × Int} (h : spotS N s = true) : 0 ≤ roomS N s ∧ roomS N s ≤ 10000000 := by
  have hs := spot_facts h
  have hl := lenAt_pos hr s.1 hs.1 hs.2.1
  unfold roomS roomP
  split <;> omega
/-! ### The order -/
theorem ltS_iff {a b : Int × Int × Int} : ltS a b = true ↔ a.1 < b.1 ∨ (a.1 = b.1 ∧ (a.2.1 < b.2.1 ∨ (a.2.1 = b.2.1 ∧ a.2.2 < b.2.2))) := by
  unfold ltS
  split
  · rw [decide_eq_true_eq]; omega
  · split
    · rw [decide_eq_true_eq]; omega
    · rw [decide_eq_true_eq]; omega
theorem leS_iff {a b : Int × Int × Int} : leS a b = true ↔ ¬ (b.1 < a.1 ∨ (b.1 = a.1 ∧ (b.2.1 < a.2.1 ∨ (b.2.1 = a.2.1 ∧ b.2.2 < a.2.2)))) := by
  unfold leS
  rw [Bool.not_eq_true', Bool.eq_false_iff, Ne, ltS_iff]
theorem leS_trans (a b c : Int × Int × Int) (h : leS a b = true) (h' : leS b c = true) : leS a c = true := by
  rw [leS_iff] at *
  omega
theorem leS_total (a b : Int × Int × Int) : (leS a b || leS b a) = true := by
  rw [Bool.or_eq_true, leS_iff, leS_iff]
  omega
theorem leS_anti {a b : Int × Int × Int} (h : leS a b = true) (h' : leS b a = true) : a = b := by
  rw [leS_iff] at *
  exact Prod.ext (by omega) (Prod.ext (by omega) (by omega))
/-- A sorted list of what was told is the answer's list. -/
theorem sorted_one {l out : List (Int × Int × Int)} (hp : l.Perm out) (hs : l.Pairwise (fun a b => leS a b = true)) : l = out.mergeSort leS :=
  List.Perm.eq_of_pairwise (le := fun a b => leS a b = true) (fun _ _ _ _ h1 h2 => leS_anti h1 h2) hs (List.pairwise_mergeSort leS_trans leS_total out) (hp.trans (List.mergeSort_perm out leS).symm)
end Go.Proofs.YtijdigdcmjdooaaGreat

/- Reach: the map of the spots that were told, the map of the drives that came. Own work. -/
namespace Go.Proofs.YtijdigdcmjdooaaGreat
open Go.RowKit Go.Maps Go.Joins
set_option maxRecDepth 100000

def WfS (s : Int × Int × Int) : Prop := (Lit.int .i64 s.1).wf = true ∧ (Lit.int .i64 s.2.1).wf = true ∧ (Lit.int .i64 s.2.2).wf = true
def WfD (x : Dv) : Prop := WfS x.1 ∧ (Lit.int .i64 x.2).wf = true
def spV (s : Int × Int × Int) : Value := .agg #[.int .i64 s.1, .int .i64 s.2.1, .int .i64 s.2.2]
def dvV (x : Dv) : Value := .agg #[.int .i64 x.1.1, .int .i64 x.1.2.1, .int .i64 x.1.2.2, .int .i64 x.2]
theorem spV_inj {a b : Int × Int × Int} (h : spV a = spV b) : a = b := by
  simp [spV] at h
  exact Prod.ext h.1 (Prod.ext h.2.1 h.2.2)
theorem dvV_inj {a b : Dv} (h : dvV a = dvV b) : a = b := by
  simp [dvV] at h
  exact Prod.ext (Prod.ext h.1 (Prod.ext h.2.1 h.2.2.1)) h.2.2.2

/-! ### Spots as keys -/
theorem rowSp : (29 : TypeId) < Tryz.prog.types.size := of_decide_eq_true (by kernel_rfl)
theorem wideSp : (match Tryz.prog.underlying 29 with | some (.array _ _) | some (.struct _) => true | _ => false) = true := by rw [Tryz.underlying29]
theorem deepSp : Tryz.prog.keyTypeAt (Tryz.prog.types.size + 1) 29 = true := by kernel_rfl
theorem cellsSp : Tryz.prog.cellsOf 29 = 3 := by kernel_rfl
theorem cellsIn : Tryz.prog.cellsOf 3 = 1 := by kernel_rfl
set_option maxRecDepth 100000 in
theorem klawSp : WideMaps.KeyLaw Tryz.prog 29 := deep_law_laid Tryz.laidOut (m := 2) (by omega) rowSp (by kernel_rfl) wideSp
theorem lawSp : Keyed Tryz.prog 29 := Keyed.of_law klawSp
theorem typesMany : ∃ n, Tryz.prog.types.size = n + 2 := ⟨Tryz.prog.types.size - 2, by have h : 2 ≤ Tryz.prog.types.size := of_decide_eq_true (by kernel_rfl); omega⟩
theorem litsSp {n : Nat} {a b c : Int} (ha : (Lit.int .i64 a).wf = true) (hb : (Lit.int .i64 b).wf = true) (hc : (Lit.int .i64 c).wf = true) : Tryz.prog.keyLits (n + 2) 29 [.int .i64 a, .int .i64 b, .int .i64 c] = some [.int .i64 a, .int .i64 b, .int .i64 c] := by
  simp [Program.keyLits, Tryz.underlying29, Tryz.underlying3, cellsSp, cellsIn, ha, hb, hc]
theorem keySp {s : Int × Int × Int} (hw : WfS s) : ∃ kl, keyOf Tryz.prog 29 (spV s) = some kl := by
  obtain ⟨n, hn⟩ := typesMany
  have hd : Tryz.prog.keyType 29 = true := deepSp
  have hf : (spV s).formed Tryz.prog 29 = true := by simp [spV, Value.formed, Tryz.underlying29, cellsSp]
  have hl : Tryz.prog.keyLits (Tryz.prog.types.size + 1) 29 (spV s).cells.toList = some [.int .i64 s.1, .int .i64 s.2.1, .int .i64 s.2.2] := by
    rw [hn]
    exact litsSp (n := n + 1) hw.1 hw.2.1 hw.2.2
  unfold keyOf
  rw [Tryz.underlying29]
  dsimp only
  rw [hd, hf, hl]
  exact ⟨_, rfl⟩
theorem keySp_inv {v : Value} {kl : Lit} (h : keyOf Tryz.prog 29 v = some kl) : ∃ s, v = spV s ∧ WfS s := by
  obtain ⟨n, hn⟩ := typesMany
  unfold keyOf at h
  rw [Tryz.underlying29] at h
  dsimp only at h
  split at h
  · rename_i hc
    rw [Bool.and_eq_true] at hc
    have hf := hc.2
    rw [hn] at h
    obtain ⟨ls, hls, _⟩ := Option.map_eq_some_iff.1 h
    cases v <;> simp [Value.formed, Tryz.underlying29, cellsSp] at hf
    rename_i xs
    obtain ⟨xs⟩ := xs
    simp [Value.cells] at hls hf
    match xs, hf, hls with
    | [a, b, c], _, hls =>
      simp [Program.keyLits, Tryz.underlying29, Tryz.underlying3, cellsSp, cellsIn] at hls
      cases a <;> simp at hls
      rename_i ka a
      split at hls <;> try (simp at hls)
      rename_i hka
      cases b <;> simp at hls
      rename_i kb b
      split at hls <;> try (simp at hls)
      rename_i hkb
      cases c <;> simp at hls
      rename_i kc c
      split at hls <;> try (simp at hls)
      rename_i hkc
      obtain ⟨rfl, h1⟩ := hka
      obtain ⟨rfl, h2⟩ := hkb
      obtain ⟨rfl, h3⟩ := hkc
      exact ⟨(_, _, _), rfl, h1, h2, h3⟩
  · cases h
/-! ### Drives as keys -/
theorem rowGo : (78 : TypeId) < Tryz.prog.types.size := of_decide_eq_true (by kernel_rfl)
theorem wideGo : (match Tryz.prog.underlying 78 with | some (.array _ _) | some (.struct _) => true | _ => false) = true := by rw [Tryz.underlying78]
theorem deepGo : Tryz.prog.keyTypeAt (Tryz.prog.types.size + 1) 78 = true := by kernel_rfl
theorem cellsGo : Tryz.prog.cellsOf 78 = 4 := by kernel_rfl
set_option maxRecDepth 100000 in
theorem klawGo : WideMaps.KeyLaw Tryz.prog 78 := deep_law_laid Tryz.laidOut (m := 3) (by omega) rowGo (by kernel_rfl) wideGo
theorem lawGo : Keyed Tryz.prog 78 := Keyed.of_law klawGo
theorem litsIn {n : Nat} {a : Int} (ha : (Lit.int .i64 a).wf = true) : Tryz.prog.keyLits (n + 1) 3 [.int .i64 a] = some [.int .i64 a] := by
  simp [Program.keyLits, Tryz.underlying3, ha]
theorem keyGo {x : Dv} (hw : WfD x) : ∃ kl, keyOf Tryz.prog 78 (dvV x) = some kl := by
  obtain ⟨n, hn⟩ := typesMany
  have hd : Tryz.prog.keyType 78 = true := deepGo
  have hf : (dvV x).formed Tryz.prog 78 = true := by simp [dvV, Value.formed, Tryz.underlying78, cellsGo]
  have hl : Tryz.prog.keyLits (Tryz.prog.types.size + 1) 78 (dvV x).cells.toList = some [.int .i64 x.1.1, .int .i64 x.1.2.1, .int .i64 x.1.2.2, .int .i64 x.2] := by
    rw [hn]
    show Tryz.prog.keyLits (n + 1 + 1 + 1) 78 [.int .i64 x.1.1, .int .i64 x.1.2.1, .int .i64 x.1.2.2, .int .i64 x.2] = _
    simp [Program.keyLits, Tryz.underlying78, Tryz.underlying29, Tryz.underlying3, cellsGo, cellsSp, cellsIn, hw.1.1, hw.1.2.1, hw.1.2.2, hw.2]
    rw [if_pos (by decide)]
    rfl
  unfold keyOf
  rw [Tryz.underlying78]
  dsimp only
  rw [hd, hf, hl]
  exact ⟨_, rfl⟩

/-! ### The spots that were told -/
def TM (w : World) (b n : Nat) (out : List (Int × Int × Int)) : Prop :=
  ∃ D : DataW Unit, w.ownsMap Tryz.prog 29 (plainElem Tryz.prog 3) b n D ∧ Maps.size D = out.length ∧ ∀ s kl, keyOf Tryz.prog 29 (spV s) = some kl → Maps.has D kl = decide (s ∈ out)
theorem TM.made (w : World) : TM (w.alloc (.map #[] 0)) w.heap.size 0 [] :=
  ⟨_, World.ownsMap_made w _ _ _, rfl, fun _ _ _ => by simp [Maps.has]⟩
theorem TM.of_block {w w' : World} {b n out} (h : TM w b n out) (e : w'.heap[b]? = w.heap[b]?) : TM w' b n out := by
  obtain ⟨D, ⟨es, clock, hb, h2⟩, h3⟩ := h
  exact ⟨D, ⟨es, clock, e.trans hb, h2⟩, h3⟩
theorem TM.lt {w : World} {b n out} (h : TM w b n out) : b < w.heap.size := by
  obtain ⟨D, h, _⟩ := h
  exact h.lt
theorem TM.look {w : World} {b n out} (h : TM w b n out) {s : Int × Int × Int} (hw : WfS s) :
    ∃ c, (Instr.lookup 72 (.map (some b)) (spV s) false).run Tryz.prog w = .ok (.int .i64 c) w ∧ (Lit.int .i64 c).wf = true := by
  obtain ⟨D, hown, _⟩ := h
  obtain ⟨kl, hkl⟩ := keySp hw
  obtain ⟨c, hrun, _, hc⟩ := hown.lookup_int lawSp Tryz.underlying72 Tryz.underlying3 (zeroI _) hkl
  exact ⟨c, hrun, hc⟩
theorem TM.put {w : World} {b n out} (h : TM w b n out) (hn : n < maxLen) {s : Int × Int × Int} (hw : WfS s) {c : Int} (hc : (Lit.int .i64 c).wf = true) :
    ∃ w', (Instr.mapUpdate 72 (.map (some b)) (spV s) (.int .i64 c)).run Tryz.prog w = .ok () w' ∧ TM w' b (n + 1) (addO out s) ∧ w.grownBy w' (some b) := by
  obtain ⟨D, hown, hsz, hD⟩ := h
  obtain ⟨kl, hkl⟩ := keySp hw
  obtain ⟨w', hrun, hown', hg⟩ := hown.update lawSp Tryz.underlying72 hn hkl (plainElem_int Tryz.underlying3 hc)
  refine ⟨w', hrun, ⟨_, hown', ?_, fun t kl' hkl' => ?_⟩, hg⟩
  · rw [size_put (hown.tidy lawSp), hD s kl hkl, hsz]
    by_cases hm : s ∈ out
    · rw [addO_in hm]; simp [hm]
    · rw [addO_new hm]; simp [hm]
  · by_cases he : t = s
    · subst he
      obtain rfl : kl = kl' := by rw [hkl] at hkl'; exact Option.some.inj hkl'
      rw [has_put_same hown.isMap (lawSp.key hkl)]
      exact (decide_eq_true (mem_addO.2 (.inr rfl))).symm
    · have hne : kl' ≠ kl := by
        intro hk
        subst hk
        exact he (spV_inj (lawSp.inj hkl' hkl))
      rw [has_put_other hne, hD t kl' hkl']
      have e : (t ∈ addO out s) = (t ∈ out) := propext (by rw [mem_addO]; simp [he])
      simp only [e]
theorem TM.len {w : World} {b n out} (h : TM w b n out) (ty : TypeId) : (Builtin.len_ #[72] ty #[.map (some b)]).run Tryz.prog w = .ok (.int .i64 (out.length : Nat)) w := by
  obtain ⟨D, hown, hsz, _⟩ := h
  rw [hown.len Tryz.underlying72, hsz]
/-! ### The drives that came -/
def CM (w : World) (b n : Nat) (seen : List Dv) : Prop :=
  ∃ (D : DataW Unit) (f : Dv → Nat), w.ownsMap Tryz.prog 78 (plainElem Tryz.prog 3) b n D ∧ (∀ x kl, keyOf Tryz.prog 78 (dvV x) = some kl → D.atKey kl (.lit (.int .i64 0)) = .lit (.int .i64 (f x : Nat))) ∧ (∀ x, f x = 0 ↔ x ∉ seen) ∧ ∀ x, f x ≤ n
theorem CM.made (w : World) : CM (w.alloc (.map #[] 0)) w.heap.size 0 [] :=
  ⟨_, fun _ => 0, World.ownsMap_made w _ _ _, fun _ _ _ => rfl, fun _ => by simp, fun _ => Nat.le_refl _⟩
theorem CM.of_block {w w' : World} {b n seen} (h : CM w b n seen) (e : w'.heap[b]? = w.heap[b]?) : CM w' b n seen := by
  obtain ⟨D, f, ⟨es, clock, hb, h2⟩, h3⟩ := h
  exact ⟨D, f, ⟨es, clock, e.trans hb, h2⟩, h3⟩
theorem CM.lt {w : World} {b n seen} (h : CM w b n seen) : b < w.heap.size := by
  obtain ⟨D, f, h, _⟩ := h
  exact h.lt
theorem CM.look {w : World} {b n seen} (h : CM w b n seen) {x : Dv} (hw : WfD x) :
    ∃ c : Nat, (Instr.lookup 123 (.map (some b)) (dvV x) false).run Tryz.prog w = .ok (.int .i64 c) w ∧ (c = 0 ↔ x ∉ seen) ∧ c ≤ n := by
  obtain ⟨D, f, hown, hD, hz, hle⟩ := h
  obtain ⟨kl, hkl⟩ := keyGo hw
  obtain ⟨c, hrun, hat, _⟩ := hown.lookup_int lawGo Tryz.underlying123 Tryz.underlying3 (zeroI _) hkl
  rw [hD x kl hkl] at hat
  obtain rfl : c = (f x : Int) := by simpa using hat.symm
  exact ⟨f x, hrun, hz x, hle x⟩
theorem CM.put {w : World} {b n seen} (h : CM w b n seen) (hn : n < 100000) {x : Dv} (hw : WfD x) {c : Nat} (hc : c ≤ n) :
    ∃ w', (Instr.mapUpdate 123 (.map (some b)) (dvV x) (.int .i64 ((c : Int) + 1))).run Tryz.prog w = .ok () w' ∧ CM w' b (n + 1) (x :: seen) ∧ w.grownBy w' (some b) := by
  obtain ⟨D, f, hown, hD, hz, hle⟩ := h
  obtain ⟨kl, hkl⟩ := keyGo hw
  have hwf : (Lit.int .i64 ((c : Int) + 1)).wf = true := by
    simp only [Lit.wf, IntKind.min, IntKind.max, IntKind.bits, IntKind.signed, Bool.and_eq_true, decide_eq_true_eq]
    simp
    omega
  obtain ⟨w', hrun, hown', hg⟩ := hown.update lawGo Tryz.underlying123 (by unfold maxLen; omega) hkl (plainElem_int Tryz.underlying3 hwf)
  refine ⟨w', hrun, ⟨_, fun y => if y = x then c + 1 else f y, hown', fun y kl' hkl' => ?_, fun y => ?_, fun y => ?_⟩, hg⟩
  · dsimp only
    by_cases he : y = x
    · subst he
      obtain rfl : kl = kl' := by rw [hkl] at hkl'; exact Option.some.inj hkl'
      rw [atKey_put_same hown.isMap (lawGo.key hkl), if_pos rfl]
      rfl
    · have hne : kl' ≠ kl := by
        intro hk
        subst hk
        exact he (dvV_inj (lawGo.inj hkl' hkl))
      rw [atKey_put_other hne, hD y kl' hkl', if_neg he]
  · dsimp only
    by_cases he : y = x
    · rw [if_pos he]; simp [he]
    · rw [if_neg he, hz y]; simp [he]
  · dsimp only
    by_cases he : y = x
    · rw [if_pos he]; omega
    · rw [if_neg he]; exact Nat.le_succ_of_le (hle y)
end Go.Proofs.YtijdigdcmjdooaaGreat

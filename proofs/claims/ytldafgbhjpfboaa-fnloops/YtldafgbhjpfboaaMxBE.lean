/- Nets, ASpot, Lies: what the laws draw; how great it is at most. Own work. -/
import Derived.Test.YtldafgbhjpfboaaDwN
import Derived.Test.YtldafgbhjpfboaaMxAO
import Derived.Test.YtldafgbhjpfboaaMxBC
import Derived.Test.YtldafgbhjpfboaaLpJ
import Derived.Test.YtldafgbhjpfboaaMxBD
import Derived.Test.YtldafgbhjpfboaaMxAL
import Derived.Test.YtldafgbhjpfboaaMxAW
import Derived.Test.YtldafgbhjpfboaaRows
import Derived.ProofKit
import Derived.OpenShut
import Derived.ChangeOld
namespace Go.Proofs.Ytldafgbhjpfboaa
open Go.RowKit
set_option maxHeartbeats 2000000

/-! ### How great a drawn track is -/
theorem pcsTo_all (code : List Int) (small : Int) (c0 : Cu) (i : Nat) : ∀ p ∈ (pcsTo code small c0 i).1, ∃ (k : Nat) (c : Cu), k < i ∧ p = pcDraw code small k c := by
  induction i with
  | zero => intro p hp; simp [pcsTo] at hp
  | succ i ih =>
    intro p hp
    simp only [pcsTo, List.mem_append, List.mem_singleton] at hp
    rcases hp with hp | hp
    · obtain ⟨k, c, h1, h2⟩ := ih p hp
      exact ⟨k, c, by omega, h2⟩
    · exact ⟨i, _, by omega, hp⟩
theorem jrun_all (code : List Int) (P : Jt → Prop) (hP : ∀ n es c, 0 < es.length → es.length ≤ 18 → n ≤ 18 → P (jtDraw code n es c)) : ∀ (f : Nat) (js : List Jt) (es : List (Int × Int)) (c : Cu), es.length ≤ 18 → js.length + es.length ≤ 18 → (∀ j ∈ js, P j) → (∀ j ∈ jrun code f js es c, P j) ∧ (jrun code f js es c).length ≤ 18
  | 0, js, es, c, _, h2, h => ⟨h, by simp [jrun]; omega⟩
  | f + 1, js, es, c, h1, h2, h => by
    rw [jrun]
    split
    · exact ⟨h, by omega⟩
    · rename_i h0
      have hk := jtKind_bd code es c (by omega)
      refine jrun_all code P hP f _ _ _ (by simp; omega) (by simp; omega) ?_
      intro j hj
      rcases List.mem_append.1 hj with hj | hj
      · exact h j hj
      · have : j = jtDraw code js.length es c := by simpa using hj
        rw [this]
        exact hP _ _ _ (by omega) h1 (by omega)
structure NetBd (N : Nt) : Prop where
  some : 1 ≤ N.pcs.length
  few : N.pcs.length ≤ 9
  names : ∀ p ∈ N.pcs, p.name.size ≤ 9
  lens : ∀ p ∈ N.pcs, 1 ≤ p.len ∧ p.len ≤ 300
  joints : N.jts.length ≤ 18
  jends : ∀ j ∈ N.jts, j.name.size ≤ 9 ∧ j.ends.length ≤ 18
theorem netP_bd (code : List Int) (c : Cu) : NetBd (netP code c) := by
  have hk := pickV_bd (code := code) (n := 9) (by omega) (pickC code 4 c)
  generalize hK : (1 + pickV code 9 (pickC code 4 c)).toNat = K
  have hK9 : 1 ≤ K ∧ K ≤ 9 := by omega
  have hpcs : (netP code c).pcs = (pcsTo code (pickV code 4 c) (pickC code 9 (pickC code 4 c)) K).1 := by unfold netP; simp only [hK]
  have hjts : (netP code c).jts = jrun code (2 * K) [] (shuf code (2 * K - 1) (endsTo K) (pcsTo code (pickV code 4 c) (pickC code 9 (pickC code 4 c)) K).2).1 (shuf code (2 * K - 1) (endsTo K) (pcsTo code (pickV code 4 c) (pickC code 9 (pickC code 4 c)) K).2).2 := by unfold netP; simp only [hK]
  have hall := pcsTo_all code (pickV code 4 c) (pickC code 9 (pickC code 4 c)) K
  have hes : (shuf code (2 * K - 1) (endsTo K) (pcsTo code (pickV code 4 c) (pickC code 9 (pickC code 4 c)) K).2).1.length = 2 * K := by rw [shuf_len, endsTo_len]
  have hj := jrun_all code (fun j => j.name.size ≤ 9 ∧ j.ends.length ≤ 18) (fun n es c h0 h1 h2 => by
    unfold jtDraw
    refine ⟨?_, ?_⟩
    · dsimp only
      split
      · exact nameP_size (by omega)
      · decide
    · simp; omega) (2 * K) [] _ (shuf code (2 * K - 1) (endsTo K) (pcsTo code (pickV code 4 c) (pickC code 9 (pickC code 4 c)) K).2).2 (by rw [hes]; omega) (by rw [hes]; simp; omega) (fun j hj => by simp at hj)
  refine ⟨?_, ?_, ?_, ?_, ?_, ?_⟩
  · rw [hpcs, pcsTo_len]; omega
  · rw [hpcs, pcsTo_len]; omega
  · intro p hp
    rw [hpcs] at hp
    obtain ⟨k, c', h1, rfl⟩ := hall p hp
    exact nameP_size (by omega)
  · intro p hp
    rw [hpcs] at hp
    obtain ⟨k, c', h1, rfl⟩ := hall p hp
    exact pcLen_bd _ _ _
  · rw [hjts]; exact hj.2
  · intro j hj'
    rw [hjts] at hj'
    exact hj.1 j hj'
theorem NetBd.len_at {N : Nt} (h : NetBd N) {k : Nat} (hk : k < N.pcs.length) : 1 ≤ lenAt N k ∧ lenAt N k ≤ 300 := by
  rw [lenAt_nat N k hk]
  exact h.lens _ (List.getElem_mem hk)

/-! ### Nets -/
def netOfCode (code : List Int) : Nt := netP code ⟨0, 0⟩
def NetsPost (code : List Int) (w : World) (e : Ending) (w' : World) : Prop :=
  ∃ (pa ja : Option Addr) (pcap jcap : Nat), e = .returned (.agg #[.slice pa (netOfCode code).pcs.length pcap, .slice ja (netOfCode code).jts.length jcap]) ∧ PcsAt w' pa (netOfCode code).pcs ∧ JtsAt w' ja (netOfCode code).jts ∧ Below w.heap.size w w'

theorem cur_new {w : World} {a : Option Addr} {n cap : Nat} : CurAt (w.alloc (.cells #[.slice a n cap, .int .i64 0, .int .u64 0] 37)) w.heap.size a n cap ⟨0, 0⟩ :=
  ⟨new_cell w _ _ 0 _ rfl, new_cell w _ _ 1 _ rfl, new_cell w _ _ 2 _ rfl, by simp [go_sem], by simp [go_sem]⟩
theorem off_of {w : World} {a : Option Addr} {code : List Int} {B : Nat} (h : BytesAt w a code) (hB : w.heap.size ≤ B) : OffB a code.length B := by
  intro b off ha
  by_cases h0 : code.length = 0
  · exact .inl h0
  · obtain ⟨b', off', ha', hc⟩ := h 0 (by omega)
    rw [ha] at ha'
    obtain ⟨rfl, rfl⟩ : b = b' ∧ off = off' := by simpa using ha'
    exact .inr (Nat.lt_of_lt_of_le (cell_lt hc) hB)

theorem nets_any (a : Option Addr) (cap : Nat) (code : List Int) (w : World) (hB : Bys code) (hn : code.length ≤ 1048576) (hx : BytesAt w a code) :
    Calls Try.prog 4 #[.slice a code.length cap] w fun e w' => NetsPost code w e w' := by
  have HB := hide hB
  have HX := hide hx
  have hbA : Below w.heap.size w ((w.alloc (.cells #[.slice none 0 0, .slice none 0 0] 26)).alloc (.cells #[.slice a code.length cap, .int .i64 0, .int .u64 0] 37)) := ((Below.refl _ _).alloc (Nat.le_refl _) _).alloc (by simp) _
  have HCA : Hid (CurAt ((w.alloc (.cells #[.slice none 0 0, .slice none 0 0] 26)).alloc (.cells #[.slice a code.length cap, .int .i64 0, .int .u64 0] 37)) (w.heap.size + 1) a code.length cap ⟨0, 0⟩) := by
    have := cur_new (w := w.alloc (.cells #[.slice none 0 0, .slice none 0 0] 26)) (a := a) (n := code.length) (cap := cap)
    rw [World.size_alloc] at this
    exact this
  have HO := hide (off_of hx (B := w.heap.size + 1) (by omega))
  have r0 : ((w.alloc (.cells #[.slice none 0 0, .slice none 0 0] 26)).alloc (.cells #[.slice a code.length cap, .int .i64 0, .int .u64 0] 37)).cell? ⟨w.heap.size, 0, none⟩ = some (.slice none 0 0) := by simp [go_sem]
  have r1 : ((w.alloc (.cells #[.slice none 0 0, .slice none 0 0] 26)).alloc (.cells #[.slice a code.length cap, .int .i64 0, .int .u64 0] 37)).cell? ⟨w.heap.size, 1, none⟩ = some (.slice none 0 0) := by simp [go_sem]
  have rf0 : ((w.alloc (.cells #[.slice none 0 0, .slice none 0 0] 26)).alloc (.cells #[.slice a code.length cap, .int .i64 0, .int .u64 0] 37)).frozen? ⟨w.heap.size, 0, none⟩ = false := by simp [go_sem]
  have rf1 : ((w.alloc (.cells #[.slice none 0 0, .slice none 0 0] 26)).alloc (.cells #[.slice a code.length cap, .int .i64 0, .int .u64 0] 37)).frozen? ⟨w.heap.size, 1, none⟩ = false := by simp [go_sem]
  have hzA : ((w.alloc (.cells #[.slice none 0 0, .slice none 0 0] 26)).alloc (.cells #[.slice a code.length cap, .int .i64 0, .int .u64 0] 37)).heap.size = w.heap.size + 2 := by simp
  clear hB hx
  go_enter Try.func4, Try.ntmps4
  go_wp2_with fail
  generalize ((w.alloc (.cells #[.slice none 0 0, .slice none 0 0] 26)).alloc (.cells #[.slice a code.length cap, .int .i64 0, .int .u64 0] 37)) = w1 at *
  refine (net_any (w.heap.size + 1) a cap code ⟨0, 0⟩ _ HB.out (Nat.zero_le _) hn HO.out HCA.out (HX.out.later hbA)).mono ?_
  rintro e w2 ⟨pa, ja, pcap, jcap, rfl, hIN, hm⟩
  have rf0 := hm.frozen (.inl (by omega)) r0 rf0
  have rf1 := hm.frozen (.inl (by omega)) r1 rf1
  have r0 := hm.cell (.inl (by omega)) r0
  have r1 := hm.cell (.inl (by omega)) r1
  have HIN := hide hIN
  have hb2 : Below w.heap.size w w2 := hbA.trans ((hm.below (by omega)).mono (by omega))
  have hz2 := hm.size
  clear hIN hm HCA HX HO
  go_wp2_with fail
  refine bodyPost_ret (v := .agg #[.slice pa (netP code ⟨0, 0⟩).pcs.length pcap, .slice ja (netP code ⟨0, 0⟩).jts.length jcap]) (by simp [results, Try.results4, go_sem, r0, r1]) rfl ?_
  have hle : w.heap.size ≤ w.heap.size := Nat.le_refl _
  obtain ⟨h1, h2⟩ := HIN.out ((w2.setCell ⟨w.heap.size, 0, none⟩ (.slice pa (netP code ⟨0, 0⟩).pcs.length pcap)).setCell ⟨w.heap.size, 1, none⟩ (.slice ja (netP code ⟨0, 0⟩).jts.length jcap)) (fun k hk _ => (Below.heap_setCell _ _ _ _ (by show k ≠ w.heap.size; omega)).trans (Below.heap_setCell _ _ _ _ (by show k ≠ w.heap.size; omega)))
  exact ⟨pa, ja, pcap, jcap, rfl, h1, h2, (hb2.setCell hle _).setCell hle _⟩
end Go.Proofs.Ytldafgbhjpfboaa

/- The law FnLoops' walk. Own work. -/
namespace Go.Proofs.Ytldafgbhjpfboaa
open Go.RowKit Go.Sort
set_option maxHeartbeats 8000000
set_option maxRecDepth 100000

theorem lps_rd {w : World} {base : Nat} {v : Value} {l : List Lp} (h : w.ownsRow base 30 1 v l.length (lpCells l)) : ∃ z c, v = .slice z l.length c ∧ ∀ k (hk : k < l.length), ∃ g, z = some ⟨g, 0, none⟩ ∧ w.cell? ⟨g, k, none⟩ = some (.slice l[k].z l[k].ss.length l[k].c) := by
  rcases id h.2 with ⟨rfl, h0⟩ | ⟨g, cap, cur, rfl, hb, hg, _⟩
  · exact ⟨none, 0, by rw [h0], fun k hk => by omega⟩
  · refine ⟨_, cap, rfl, fun k hk => ⟨g, rfl, ?_⟩⟩
    rw [h.cellAt k (by omega)]
    simp [lpCells, hk]
theorem ends_first {w : World} {z : Option Addr} {ss : List (Int × Int)} (h : EndsAt w z ss) {s : Int × Int} (hs : ss.head? = some s) (h2 : 0 < ss.length) : ∃ b off, z = some ⟨b, off, none⟩ ∧ w.cell? ⟨b, off, none⟩ = some (.int .i64 s.1) ∧ w.cell? ⟨b, off + 1, none⟩ = some (.int .i64 s.2) := by
  obtain ⟨b, off, hz, c0, c1⟩ := h 0 h2
  have e : ss[0] = s := by
    rw [List.head?_eq_getElem?, List.getElem?_eq_getElem h2] at hs
    exact Option.some.inj hs
  rw [e] at c0 c1
  simp only [Nat.zero_mul, Nat.add_zero] at c0 c1
  exact ⟨b, off, hz, c0, c1⟩
theorem fnLoops_walk (a : Option Addr) (cap : Nat) (code : List Int) (w : World) (hB : Bys code) (hn : code.length ≤ maxLen) (hx : BytesAt w a code) :
    Calls Try.prog 3 #[.slice a code.length cap] w fun e w' => e = .returned (.bool true) ∧ Below w.heap.size w w' := by
  have HB := hide hB
  have HX := hide hx
  have hcm : (code.length : Int) ≤ 9223372036854775807 := by unfold maxLen at hn; omega
  clear hB hx hn
  by_cases hc : (1048576 : Int) < (code.length : Int)
  · have hc1 : decide ((1048576 : Int) < (code.length : Int)) = true := by rw [decide_eq_true_iff]; exact hc
    go_enter Try.func3, Try.ntmps3
    go_wp2_with fail
    go_ret
    exact ⟨rfl, Below.refl _ _⟩
  have hc1 : decide ((1048576 : Int) < (code.length : Int)) = false := by rw [decide_eq_false_iff_not]; exact hc
  have hcl : code.length ≤ 1048576 := by omega
  have hNB : NetBd (netOfCode code) := netP_bd code ⟨0, 0⟩
  have hNR : netOk (netOfCode code) = (0, 0) := netP_right code ⟨0, 0⟩
  clear hc hcm
  go_enter Try.func3, Try.ntmps3
  go_wp2_with fail
  refine (nets_any a cap code _ HB.out hcl HX.out).mono ?_
  rintro e w1 ⟨pa, ja, pcap, jcap, rfl, hPA, hJA, hb1⟩
  generalize netOfCode code = N at *
  have hnp := hNB.few
  have hnj := hNB.joints
  have HS9 := hide (show ∀ p ∈ N.pcs, p.name.size ≤ 1048576 from fun p hp => Nat.le_trans (hNB.names p hp) (by decide))
  have HM9 := hide (show ∀ j ∈ N.jts, j.name.size ≤ 1048576 ∧ j.ends.length ≤ 1048576 from fun j hj => ⟨Nat.le_trans (hNB.jends j hj).1 (by decide), Nat.le_trans (hNB.jends j hj).2 (by decide)⟩)
  have hA2 := (Below.refl w1.heap.size w1).alloc (Nat.le_refl _) (.cells #[.slice pa N.pcs.length pcap, .slice ja N.jts.length jcap] 26)
  have HP2 := hide (hPA.later hA2)
  have HJ2 := hide (hJA.later hA2)
  have HBW2 := hide (hb1.trans (hA2.mono hb1.size))
  have n0 := new_cell w1 #[.slice pa N.pcs.length pcap, .slice ja N.jts.length jcap] 26 0 (.slice pa N.pcs.length pcap) rfl
  have n1 := new_cell w1 #[.slice pa N.pcs.length pcap, .slice ja N.jts.length jcap] 26 1 (.slice ja N.jts.length jcap) rfl
  have HNR := hide hNR
  clear hPA hJA hb1 hNB hA2
  go_upto_region 4 with fail
  generalize w1.alloc (.cells #[.slice pa N.pcs.length pcap, .slice ja N.jts.length jcap] 26) = w2 at *
  generalize w1.heap.size = bN at *
  have hn2 := cell_lt n0
  go_wp2_with fail
  refine (implLoops_any pa ja N pcap jcap _ hNR hnp HS9.out (by omega) HM9.out HP2.out HJ2.out).mono ?_
  rintro e w3 ⟨v1, rfl, l1, ho1, hq1, hs1, hb3⟩
  replace n0 := cell_later' hb3 n0
  replace n1 := cell_later' hb3 n1
  have HBW3 := hide (HBW2.out.trans (hb3.mono HBW2.out.size))
  go_wp2_with fail
  refine (specLoops_any pa ja N pcap jcap _ hNR hnp HS9.out (by omega) HM9.out (HP2.out.later hb3) (HJ2.out.later hb3)).mono ?_
  rintro e w4 ⟨v2, rfl, l2, ho2, hq2, hs2, hb4⟩
  have HBW4 := hide (HBW3.out.trans (hb4.mono HBW3.out.size))
  have HO1 := hide (owns_later' ho1 hb4)
  have HO2 := hide ho2
  have HS1 := hide (show ∀ i ∈ l1, StRow w4 i.z i.ss from fun i hi => (hs1 i hi).later hb4)
  have HS2 := hide hs2
  have HQ := hide (show l1.map Lp.ss = l2.map Lp.ss from hq1.trans hq2.symm)
  have HLR := hide (show ∀ i ∈ l1, LoopR N.pcs.length i.ss from fun i hi => loopsTo_ok N hNR _ (Nat.le_refl _) i.ss (by rw [← hq1]; exact List.mem_map_of_mem hi))
  have hll : l2.length = l1.length := by
    have h := congrArg List.length HQ.out
    simpa using h.symm
  have hl18 : l1.length ≤ 18 := by
    have h := congrArg List.length hq1
    have h' := loopsTo_len N hNR (2 * N.pcs.length)
    rw [List.length_map] at h
    omega
  obtain ⟨z1, c1, rfl, _⟩ := lps_rd HO1.out
  obtain ⟨z2, c2, rfl, _⟩ := lps_rd HO2.out
  rw [hll]
  clear ho1 ho2 hs1 hs2 hq1 hq2 hb3 hb4 n0 n1
  go_wp2_with fail
  go_loopw [6, 7, 8, 9, 26] (fun _ _ _ _ ix wr => ∃ (i : Nat), i ≤ l1.length ∧ ix = .int .i64 i ∧ Hid (Below w4.heap.size w4 wr)) (fun _ _ _ _ ix _ => l1.length - (intOf ix).toNat)
  case atStart => exact ⟨0, Nat.zero_le _, rfl, Below.refl _ _⟩
  case round =>
    obtain ⟨i, hi, rfl, HBR⟩ := hrel
    by_cases hlt : i < l1.length
    · have hii : (i : Int) < (l1.length : Int) := by omega
      have hlt2 : i < l2.length := by omega
      obtain ⟨z1', c1', e1, hr1⟩ := lps_rd HO1.out
      obtain ⟨g1, hg1, d1⟩ := hr1 i hlt
      obtain ⟨z2', c2', e2, hr2⟩ := lps_rd HO2.out
      obtain ⟨g2, hg2, d2⟩ := hr2 i hlt2
      obtain rfl : z1 = some ⟨g1, 0, none⟩ := by simp only [Value.slice.injEq] at e1; exact e1.1.trans hg1
      obtain rfl : z2 = some ⟨g2, 0, none⟩ := by simp only [Value.slice.injEq] at e2; exact e2.1.trans hg2
      have hR1 := HS1.out l1[i] (List.getElem_mem hlt)
      have hR2 := HS2.out l2[i] (List.getElem_mem hlt2)
      have hLR := HLR.out l1[i] (List.getElem_mem hlt)
      have hss : l2[i].ss = l1[i].ss := by
        have h : (l1.map Lp.ss)[i]'(by simpa using hlt) = (l2.map Lp.ss)[i]'(by simpa using hlt2) := by simp only [HQ.out]
        simpa using h.symm
      replace d1 := cell_later' HBR.out d1
      replace d2 := cell_later' HBR.out d2
      replace hR1 := hR1.later HBR.out
      replace hR2 := hR2.later HBR.out
      generalize l1[i] = x1 at *
      generalize l2[i] = x2 at *
      obtain ⟨ss, y1, k1⟩ := x1
      obtain ⟨ss2, y2, k2⟩ := x2
      dsimp only at *
      subst hss
      obtain ⟨h2, h2f, s, hsh, hsl⟩ := hLR
      have HE1 := hide hR1.1
      have HE2 := hide hR2.1
      obtain ⟨b1, o1, rfl, f0, f1⟩ := ends_first hR1.1 hsh (by omega)
      obtain ⟨b1', o1', e3, m0, m1⟩ := hR1.1 (ss2.length - 1) (by omega)
      obtain ⟨rfl, rfl⟩ : b1 = b1' ∧ o1 = o1' := by simpa using e3
      rw [last_at hsl (by omega)] at m0 m1
      obtain ⟨b2, o2, rfl, _, _⟩ := ends_first hR2.1 hsh (by omega)
      obtain ⟨s1, s2⟩ := s
      dsimp only at *
      have hl1 : decide ((ss2.length : Int) < 2) = false := by rw [decide_eq_false_iff_not]; omega
      have hl0 : (0 : Int) < (ss2.length : Int) := by omega
      have hw1 : IntKind.i64.wrap ((ss2.length : Int) - 1) = ((ss2.length - 1 : Nat) : Int) := by rw [IntKind.wrap_i64]; omega
      have hl2' : ((ss2.length - 1 : Nat) : Int) < (ss2.length : Int) := by omega
      have k0 := cell_regrown f0
      have k1' := cell_regrown f1
      have k2' := cell_regrown m0
      have k3 := cell_regrown m1
      have k4 := cell_regrown d2
      have hd1l := cell_lt d1
      clear e1 e2 hr1 hr2 hg1 hg2 hR1 hR2 hsh hsl e3
      go_upto_region 12 with fail
      refine wp_region_quiet_below (by kernel_rfl) (by kernel_rfl) ?_
      repeat (go_big_quiet_step (fail))
      refine wpQuiet_nil ?_
      intro _ hw'
      obtain ⟨⟨dq, osq⟩, hw''⟩ := hw'
      subst hw''
      have hBQ := below_regrown wr dq osq
      have HE1' := hide (HE1.out.later hBQ)
      have HE2' := hide (HE2.out.later hBQ)
      have HBQ := hide (HBR.out.trans (hBQ.mono HBR.out.size))
      replace d2 := cell_later' hBQ d2
      clear k0 k1' k2' k3 k4 f0 f1 m0 m1 d1 hBQ HE1 HE2 HBR
      generalize grow (redrawn wr dq) osq = w6 at *
      try dsimp only
      go_wp2_with fail
      go_loopw [9, 57] (fun _ ix wy => ∃ (k : Nat), k ≤ ss2.length ∧ ix = .int .i64 k ∧ Hid (Below w6.heap.size w6 wy)) (fun _ ix _ => ss2.length - (intOf ix).toNat)
      case atStart => exact ⟨0, Nat.zero_le _, rfl, Below.refl _ _⟩
      case round =>
        obtain ⟨k, hk, rfl, HB6⟩ := hrel
        rename World => w7
        by_cases hkl : k < ss2.length
        · have hki : (k : Int) < (ss2.length : Int) := by omega
          obtain ⟨b1', o1', e1, p0, p1⟩ := (HE1'.out.later HB6.out) k hkl
          obtain ⟨rfl, rfl⟩ : b1 = b1' ∧ o1 = o1' := by simpa using e1
          obtain ⟨b2', o2', e2, q0, q1⟩ := (HE2'.out.later HB6.out) k hkl
          obtain ⟨rfl, rfl⟩ : b2 = b2' ∧ o2 = o2' := by simpa using e2
          have k4 := cell_regrown (cell_later' HB6.out d2)
          generalize ss2[k] = sk at *
          obtain ⟨x1, x2⟩ := sk
          dsimp only at *
          have k0 := cell_regrown p0
          have k1' := cell_regrown p1
          have k2' := cell_regrown q0
          have k3 := cell_regrown q1
          clear p0 p1 q0 q1 e1 e2
          go_upto_region 17 with fail
          refine wp_region_quiet_below (by kernel_rfl) (by kernel_rfl) ?_
          repeat (go_big_quiet_step (fail))
          refine wpQuiet_nil ?_
          intro _ hw'
          obtain ⟨⟨dr, osr⟩, hw''⟩ := hw'
          subst hw''
          have HBN := hide (HB6.out.trans ((below_regrown w7 dr osr).mono HB6.out.size))
          clear k0 k1' k2' k3 k4
          generalize grow (redrawn w7 dr) osr = w8 at *
          try dsimp only
          go_wp2_with fail
          go_roundw
          case rel => exact ⟨k + 1, by omega, by go_num, HBN⟩
          case measure => simp [intOf]; omega
        · have hke : k = ss2.length := by omega
          subst hke
          have HBN := hide (HBQ.out.trans (HB6.out.mono HBQ.out.size))
          go_wp2_with fail
          go_roundw
          case rel => exact ⟨i + 1, by omega, by go_num, HBN⟩
          case measure => simp [intOf]; omega
    · go_wp2_with fail
      go_ret
      exact ⟨rfl, HBW4.out.trans (HBR.out.mono HBW4.out.size)⟩
end Go.Proofs.Ytldafgbhjpfboaa

/- Bytes that came in. Own work. -/
namespace Go.Proofs.Ytldafgbhjpfboaa
open Go.RowKit Go.Joins Go.Deep Go.WideShapes Go.ChangeShapes
set_option maxRecDepth 100000

theorem cellsU8 : Try.prog.cellsOf 5 = 1 := by kernel_rfl
theorem slice_cells3 {P : Program} {w : World} {r : Reach} {b0 : Nat} {t e : TypeId} {v : Value} (ht : P.underlying t = some (.slice e)) (hv : Value.okWide P w r b0 t v) : v.cells = #[v] := by
  obtain ⟨a, len, cap, rfl⟩ := okWide_slice ht hv
  rfl

theorem bytes_of_trod {H : Type} {enc : TypeId × Value → H} {w : World} {spare : Nat → Bool} {held : Bool} {v : Value} {d : DataW H} {p : List MemPlace} (hone : v.cells = #[v]) (h : DataW.Trod enc Try.prog w 0 spare held 22 v d p) :
    ∃ (a : Option Addr) (cap : Nat) (xs : List Int), v = .slice a xs.length cap ∧ BytesAt w a xs ∧ xs.length ≤ maxLen ∧ Bys xs := by
  obtain ⟨fuel, hm⟩ := h
  rcases open_slice Try.underlying22 hm with ⟨hv, _⟩ | ⟨a, len, cap, m, n, D, Pl, hv, _, hlc, hcm, hm', _, hall⟩
  · rw [hone] at hv
    have : v = .slice none 0 0 := by simpa using hv
    subst this
    exact ⟨none, 0, [], rfl, fun k hk => by simp at hk, by simp, fun x hx => by simp at hx⟩
  · rw [hone] at hv
    have : v = .slice (some a) len cap := by simpa using hv
    subst this
    have hlm : len ≤ m := by rw [hm']; split <;> omega
    have hex : ∀ i, i < len → ∃ x : Int, w.cell? ((a.add (i * 1)).add 0) = some (.int .u8 x) ∧ (0 ≤ x ∧ x < 256) := by
      intro i hi
      obtain ⟨cs', hc, ht⟩ := hall i (by omega)
      rw [cellsU8] at hc
      obtain ⟨_, hlen, hcell⟩ := World.cells?_some hc
      obtain ⟨x0, e0, _, w0⟩ := DataW.trod_int Try.underlying5 ht
      subst e0
      refine ⟨x0, hcell 0 (by omega), ?_⟩
      simp only [Lit.wf, IntKind.min, IntKind.max, IntKind.bits, IntKind.signed, Bool.and_eq_true] at w0
      simp at w0
      omega
    obtain ⟨xs, hl, hxs⟩ := list_of len hex
    refine ⟨some a, cap, xs, by rw [hl], ?_, by omega, ?_⟩
    · intro k hk
      obtain ⟨b, off, spot⟩ := a
      have h00 := (hxs 0 (by omega)).1
      have hspot : spot = none := by simpa [Addr.add] using World.cell?_spot h00
      subst hspot
      have hk2 := (hxs k hk).1
      simp only [add_plain, Nat.mul_one, Nat.add_zero] at hk2
      exact ⟨b, off, rfl, hk2⟩
    · intro x hx
      obtain ⟨k, hk, rfl⟩ := List.getElem_of_mem hx
      exact (hxs k hk).2
end Go.Proofs.Ytldafgbhjpfboaa

/- FnLoops. Own work. -/
namespace Go.Proofs.Ytldafgbhjpfboaa
open Go.ChangeShapes Go.WideShapes Go.ChangeAt Go.RowKit Go.Joins

theorem own_knob : ownKnob Try.prog.godebug = none := by kernel_rfl

set_option maxRecDepth 100000 in
theorem fnLoops_lifted (os : Os) (started : os.Started) (H : Type) (enc : TypeId × Value → H) :
    ReturnsInHanded {} Try.checked os 3 .any (Rows.fnLoopsSpec.pre6 enc Try.prog Try.f3 Rows.fnLoopsRow.domain false) (Rows.fnLoopsSpec.post enc Try.prog Try.f3 false true false false) := by
  refine returnsInHanded_of_change (C := Try.checked) own_knob started (by kernel_rfl) Try.func3
    (ChangeSpec.witness6 (enc := enc) (C := Try.checked) false ⟨#[], #[.slice none 0 0], []⟩ 8 (by kernel_rfl) (by kernel_rfl) (by kernel_rfl) (by kernel_rfl)) ?_
  intro W base args ds gs before hval0 hW hcnd _
  have hval : ∀ (j : Nat) t v, Try.f3.params[j]? = some t → args[j]? = some v → Value.okWide Try.prog W .any base t v := hval0
  have hW' := hW
  obtain ⟨p, q, hA0, hV, rfl, hfz, hnd⟩ := hW
  have hA : DataW.TrodAll enc Try.prog W 0 (fun _ => true) true Try.f3.params.toList args.toList ds p := hA0
  rw [Try.params3] at hA hval
  obtain ⟨v0, vs0, d0, ds0, p0, q0, hargs, rfl, rfl, h0, r0⟩ := trodAll_cons hA
  obtain ⟨rfl, rfl, rfl⟩ := trodAll_nil r0
  obtain rfl : args = #[v0] := by cases args; simp_all
  obtain ⟨rfl, rfl⟩ := trodVars_none hV
  have lt0 : ∀ x ∈ p0, x.block < W.heap.size := by obtain ⟨m, hm⟩ := h0; exact DataW.trod_lt m _ _ _ hm
  obtain ⟨a, cap, code, rfl, hx, hn, hB⟩ := bytes_of_trod (slice_cells3 Try.underlying22 (hval 0 22 v0 rfl rfl)) h0
  clear hA0 hval0
  refine (fnLoops_walk a cap code W hB hn hx).mono fun e W' ⟨he, bel⟩ => ?_
  subst he
  exact ⟨_, rfl, _, _, _, [], _, [], hW', trodAll_mk1 (shut_bool Try.underlying4 _), (trodAll_cons_mk (Below.trod Try.laidOut (by kernel_rfl) (of_decide_eq_true (by kernel_rfl)) h0 bel lt0) trodAll_mk0), rfl, bel.frame _, fun h => by cases h⟩

theorem fnLoops_over : Rows.fnLoopsRow.holds Try.pinned (OpenSpec.ofChange Rows.fnLoopsSpec) :=
  OpenClaim.holds_of_wide 3 Try.f3 rfl rfl rfl rfl rfl rfl rfl ⟨rfl, rfl, rfl, rfl, rfl⟩ rfl rfl rfl rfl rfl (by kernel_rfl) Try.func3 (by kernel_rfl)
    (of_decide_eq_true (by kernel_rfl)) (by unfold Func.isWrapper; first | (rw [if_pos (by decide +kernel)]; kernel_rfl) | (rw [if_neg (by decide +kernel)]; exact ⟨rfl, rfl⟩))
    (fun os started H enc _ => fnLoops_lifted os started H enc)
end Go.Proofs.Ytldafgbhjpfboaa

/- FnLoops, proved. Own work. -/
namespace Go.Proofs.Ytldafgbhjpfboaa
theorem fnLoops_holds : Rows.FnLoopsSaid := fnLoops_over
end Go.Proofs.Ytldafgbhjpfboaa

/- Nets, ASpot, Lies: what the laws draw; how great it is at most. Own work. -/
import Derived.Test.YtijdigdcmjdooaaGreatDwN
import Derived.Test.YtijdigdcmjdooaaGreatMxAD
import Derived.Test.YtijdigdcmjdooaaGreatMxBK
import Derived.Test.YtijdigdcmjdooaaGreatMxAZ
import Derived.Test.YtijdigdcmjdooaaGreatMxAQ
import Derived.Test.YtijdigdcmjdooaaGreatMxAP
import Derived.Test.YtijdigdcmjdooaaGreatMxBJ
import Derived.Test.YtijdigdcmjdooaaGreatMxBA
import Derived.Test.YtijdigdcmjdooaaGreatShA
import Derived.Test.YtijdigdcmjdooaaGreatMxAM
import Derived.Test.YtijdigdcmjdooaaGreatMxAL
import Derived.Deep.RegionHeld3
namespace Go.Proofs.YtijdigdcmjdooaaGreat
open Go.RowKit
set_option maxHeartbeats 2000000

/-! ### How great a drawn track is -/
theorem pcsTo_all (code : List Int) (small : Int) (c0 : Cu) (i : Nat) : ∀ p ∈ (pcsTo code small c0 i).1, ∃ (k : Nat) (c : Cu), k < i ∧ p = pcDraw code small k c := by
  induction i with
  | zero => intro p hp; simp [pcsTo] at hp
  | succ i ih =>
    intro p hp
    simp only [pcsTo, List.mem_append, List.mem_singleton] at hp
    rcases hp with hp | hp
    · obtain ⟨k, c, h1, h2⟩ := ih p hp
      exact ⟨k, c, by omega, h2⟩
    · exact ⟨i, _, by omega, hp⟩
theorem jrun_all (code : List Int) (P : Jt → Prop) (hP : ∀ n es c, 0 < es.length → es.length ≤ 18 → n ≤ 18 → P (jtDraw code n es c)) : ∀ (f : Nat) (js : List Jt) (es : List (Int × Int)) (c : Cu), es.length ≤ 18 → js.length + es.length ≤ 18 → (∀ j ∈ js, P j) → (∀ j ∈ jrun code f js es c, P j) ∧ (jrun code f js es c).length ≤ 18
  | 0, js, es, c, _, h2, h => ⟨h, by simp [jrun]; omega⟩
  | f + 1, js, es, c, h1, h2, h => by
    rw [jrun]
    split
    · exact ⟨h, by omega⟩
    · rename_i h0
      have hk := jtKind_bd code es c (by omega)
      refine jrun_all code P hP f _ _ _ (by simp; omega) (by simp; omega) ?_
      intro j hj
      rcases List.mem_append.1 hj with hj | hj
      · exact h j hj
      · have : j = jtDraw code js.length es c := by simpa using hj
        rw [this]
        exact hP _ _ _ (by omega) h1 (by omega)
structure NetBd (N : Nt) : Prop where
  some : 1 ≤ N.pcs.length
  few : N.pcs.length ≤ 9
  names : ∀ p ∈ N.pcs, p.name.size ≤ 9
  lens : ∀ p ∈ N.pcs, 1 ≤ p.len ∧ p.len ≤ 300
  joints : N.jts.length ≤ 18
  jends : ∀ j ∈ N.jts, j.name.size ≤ 9 ∧ j.ends.length ≤ 18
theorem netP_bd (code : List Int) (c : Cu) : NetBd (netP code c) := by
  have hk := pickV_bd (code := code) (n := 9) (by omega) (pickC code 4 c)
  generalize hK : (1 + pickV code 9 (pickC code 4 c)).toNat = K
  have hK9 : 1 ≤ K ∧ K ≤ 9 := by omega
  have hpcs : (netP code c).pcs = (pcsTo code (pickV code 4 c) (pickC code 9 (pickC code 4 c)) K).1 := by unfold netP; simp only [hK]
  have hjts : (netP code c).jts = jrun code (2 * K) [] (shuf code (2 * K - 1) (endsTo K) (pcsTo code (pickV code 4 c) (pickC code 9 (pickC code 4 c)) K).2).1 (shuf code (2 * K - 1) (endsTo K) (pcsTo code (pickV code 4 c) (pickC code 9 (pickC code 4 c)) K).2).2 := by unfold netP; simp only [hK]
  have hall := pcsTo_all code (pickV code 4 c) (pickC code 9 (pickC code 4 c)) K
  have hes : (shuf code (2 * K - 1) (endsTo K) (pcsTo code (pickV code 4 c) (pickC code 9 (pickC code 4 c)) K).2).1.length = 2 * K := by rw [shuf_len, endsTo_len]
  have hj := jrun_all code (fun j => j.name.size ≤ 9 ∧ j.ends.length ≤ 18) (fun n es c h0 h1 h2 => by
    unfold jtDraw
    refine ⟨?_, ?_⟩
    · dsimp only
      split
      · exact nameP_size (by omega)
      · decide
    · simp; omega) (2 * K) [] _ (shuf code (2 * K - 1) (endsTo K) (pcsTo code (pickV code 4 c) (pickC code 9 (pickC code 4 c)) K).2).2 (by rw [hes]; omega) (by rw [hes]; simp; omega) (fun j hj => by simp at hj)
  refine ⟨?_, ?_, ?_, ?_, ?_, ?_⟩
  · rw [hpcs, pcsTo_len]; omega
  · rw [hpcs, pcsTo_len]; omega
  · intro p hp
    rw [hpcs] at hp
    obtain ⟨k, c', h1, rfl⟩ := hall p hp
    exact nameP_size (by omega)
  · intro p hp
    rw [hpcs] at hp
    obtain ⟨k, c', h1, rfl⟩ := hall p hp
    exact pcLen_bd _ _ _
  · rw [hjts]; exact hj.2
  · intro j hj'
    rw [hjts] at hj'
    exact hj.1 j hj'
theorem NetBd.len_at {N : Nt} (h : NetBd N) {k : Nat} (hk : k < N.pcs.length) : 1 ≤ lenAt N k ∧ lenAt N k ≤ 300 := by
  rw [lenAt_nat N k hk]
  exact h.lens _ (List.getElem_mem hk)

/-! ### Nets -/
def netOfCode (code : List Int) : Nt := netP code ⟨0, 0⟩
def NetsPost (code : List Int) (w : World) (e : Ending) (w' : World) : Prop :=
  ∃ (pa ja : Option Addr) (pcap jcap : Nat), e = .returned (.agg #[.slice pa (netOfCode code).pcs.length pcap, .slice ja (netOfCode code).jts.length jcap]) ∧ PcsAt w' pa (netOfCode code).pcs ∧ JtsAt w' ja (netOfCode code).jts ∧ Below w.heap.size w w'

theorem cur_new {w : World} {a : Option Addr} {n cap : Nat} : CurAt (w.alloc (.cells #[.slice a n cap, .int .i64 0, .int .u64 0] 61)) w.heap.size a n cap ⟨0, 0⟩ :=
  ⟨new_cell w _ _ 0 _ rfl, new_cell w _ _ 1 _ rfl, new_cell w _ _ 2 _ rfl, by simp [go_sem], by simp [go_sem]⟩
theorem off_of {w : World} {a : Option Addr} {code : List Int} {B : Nat} (h : BytesAt w a code) (hB : w.heap.size ≤ B) : OffB a code.length B := by
  intro b off ha
  by_cases h0 : code.length = 0
  · exact .inl h0
  · obtain ⟨b', off', ha', hc⟩ := h 0 (by omega)
    rw [ha] at ha'
    obtain ⟨rfl, rfl⟩ : b = b' ∧ off = off' := by simpa using ha'
    exact .inr (Nat.lt_of_lt_of_le (cell_lt hc) hB)

theorem nets_any (a : Option Addr) (cap : Nat) (code : List Int) (w : World) (hB : Bys code) (hn : code.length ≤ 1048576) (hx : BytesAt w a code) :
    Calls Tryz.prog 5 #[.slice a code.length cap] w fun e w' => NetsPost code w e w' := by
  have HB := hide hB
  have HX := hide hx
  have hbA : Below w.heap.size w ((w.alloc (.cells #[.slice none 0 0, .slice none 0 0] 26)).alloc (.cells #[.slice a code.length cap, .int .i64 0, .int .u64 0] 61)) := ((Below.refl _ _).alloc (Nat.le_refl _) _).alloc (by simp) _
  have HCA : Hid (CurAt ((w.alloc (.cells #[.slice none 0 0, .slice none 0 0] 26)).alloc (.cells #[.slice a code.length cap, .int .i64 0, .int .u64 0] 61)) (w.heap.size + 1) a code.length cap ⟨0, 0⟩) := by
    have := cur_new (w := w.alloc (.cells #[.slice none 0 0, .slice none 0 0] 26)) (a := a) (n := code.length) (cap := cap)
    rw [World.size_alloc] at this
    exact this
  have HO := hide (off_of hx (B := w.heap.size + 1) (by omega))
  have r0 : ((w.alloc (.cells #[.slice none 0 0, .slice none 0 0] 26)).alloc (.cells #[.slice a code.length cap, .int .i64 0, .int .u64 0] 61)).cell? ⟨w.heap.size, 0, none⟩ = some (.slice none 0 0) := by simp [go_sem]
  have r1 : ((w.alloc (.cells #[.slice none 0 0, .slice none 0 0] 26)).alloc (.cells #[.slice a code.length cap, .int .i64 0, .int .u64 0] 61)).cell? ⟨w.heap.size, 1, none⟩ = some (.slice none 0 0) := by simp [go_sem]
  have rf0 : ((w.alloc (.cells #[.slice none 0 0, .slice none 0 0] 26)).alloc (.cells #[.slice a code.length cap, .int .i64 0, .int .u64 0] 61)).frozen? ⟨w.heap.size, 0, none⟩ = false := by simp [go_sem]
  have rf1 : ((w.alloc (.cells #[.slice none 0 0, .slice none 0 0] 26)).alloc (.cells #[.slice a code.length cap, .int .i64 0, .int .u64 0] 61)).frozen? ⟨w.heap.size, 1, none⟩ = false := by simp [go_sem]
  have hzA : ((w.alloc (.cells #[.slice none 0 0, .slice none 0 0] 26)).alloc (.cells #[.slice a code.length cap, .int .i64 0, .int .u64 0] 61)).heap.size = w.heap.size + 2 := by simp
  clear hB hx
  go_enter Tryz.func5, Tryz.ntmps5
  go_wp2_with fail
  generalize ((w.alloc (.cells #[.slice none 0 0, .slice none 0 0] 26)).alloc (.cells #[.slice a code.length cap, .int .i64 0, .int .u64 0] 61)) = w1 at *
  refine (net_any (w.heap.size + 1) a cap code ⟨0, 0⟩ _ HB.out (Nat.zero_le _) hn HO.out HCA.out (HX.out.later hbA)).mono ?_
  rintro e w2 ⟨pa, ja, pcap, jcap, rfl, hIN, hm⟩
  have rf0 := hm.frozen (.inl (by omega)) r0 rf0
  have rf1 := hm.frozen (.inl (by omega)) r1 rf1
  have r0 := hm.cell (.inl (by omega)) r0
  have r1 := hm.cell (.inl (by omega)) r1
  have HIN := hide hIN
  have hb2 : Below w.heap.size w w2 := hbA.trans ((hm.below (by omega)).mono (by omega))
  have hz2 := hm.size
  clear hIN hm HCA HX HO
  go_wp2_with fail
  refine bodyPost_ret (v := .agg #[.slice pa (netP code ⟨0, 0⟩).pcs.length pcap, .slice ja (netP code ⟨0, 0⟩).jts.length jcap]) (by simp [results, Tryz.results5, go_sem, r0, r1]) rfl ?_
  have hle : w.heap.size ≤ w.heap.size := Nat.le_refl _
  obtain ⟨h1, h2⟩ := HIN.out ((w2.setCell ⟨w.heap.size, 0, none⟩ (.slice pa (netP code ⟨0, 0⟩).pcs.length pcap)).setCell ⟨w.heap.size, 1, none⟩ (.slice ja (netP code ⟨0, 0⟩).jts.length jcap)) (fun k hk _ => (Below.heap_setCell _ _ _ _ (by show k ≠ w.heap.size; omega)).trans (Below.heap_setCell _ _ _ _ (by show k ≠ w.heap.size; omega)))
  exact ⟨pa, ja, pcap, jcap, rfl, h1, h2, (hb2.setCell hle _).setCell hle _⟩
end Go.Proofs.YtijdigdcmjdooaaGreat

/- What Shortest answers, in memory; how long it can be on a drawn track. Own work. -/
namespace Go.Proofs.YtijdigdcmjdooaaGreat
open Go.RowKit
set_option maxHeartbeats 1000000

/-- What Shortest answers, in memory. -/
def PathR (N : Nt) (o : Option Wy) (v : Value) (w : World) : Prop :=
  (o = none ∧ v = .agg #[.bool false, .int .i64 0, .slice none 0 0, .slice none 0 0]) ∨
  ∃ (y : Wy) (z : Option Addr) (c : Nat) (zl : Option Addr) (cl : Nat), o = some y ∧ v = .agg #[.bool true, .int .i64 y.far, .slice z y.ss.length c, .slice zl ((liesQ N y.ss).getD []).length cl] ∧ EndsAt w z y.ss ∧ EndsAt w zl ((liesQ N y.ss).getD []) ∧ ((liesQ N y.ss).getD []).length ≤ 400
theorem PathR.later {N : Nt} {o : Option Wy} {v : Value} {w w' : World} (h : PathR N o v w) (hb : Below w.heap.size w w') : PathR N o v w' := by
  rcases h with h | ⟨y, z, c, zl, cl, h1, h2, h3, h4, h5⟩
  · exact .inl h
  · exact .inr ⟨y, z, c, zl, cl, h1, h2, h3.later hb, h4.later hb, h5⟩
theorem lies_of_R {N : Nt} {ss : List (Int × Int)} {base : Nat} {v : Value} {ok : Bool} {w : World} (h : LiesR N ss base v ok w) : ∃ zl cl, v = .slice zl ((liesQ N ss).getD []).length cl ∧ EndsAt w zl ((liesQ N ss).getD []) ∧ ((liesQ N ss).getD []).length ≤ 400 := by
  rcases h with ⟨h1, h2, h3⟩ | ⟨out, h1, h2, h3, h4⟩
  · rw [h1]
    exact ⟨none, 0, h2, fun k hk => by simp at hk, by simp⟩
  · obtain ⟨z, zc, rfl, h5⟩ := lies_shape h4
    rw [h1]
    exact ⟨z, zc, rfl, h5, h3⟩
theorem strTo_ge {N : Nt} {ss : List (Int × Int)} {q a wy far : Int} (hN : NetBd N) (hr : netOk N = (0, 0)) (hs : spotP N q a wy = true) (h : stepsP N ss = true) (hf : 0 ≤ far) : ∀ i, i ≤ ss.length → far - 300 * (i : Int) ≤ (strTo N q a wy far ss i).1
  | 0, _ => by simp [strTo]
  | i + 1, hi => by
    have h1 := strTo_ge hN hr hs h hf i (by omega)
    have h2 := strTo_bd hr hs h hf (show i ≤ ss.length by omega)
    have h3 := atStep_spot hr hs h (show i < ss.length by omega)
    have h4 := goP_bd (left := (strTo N q a wy far ss i).1) h3 h2.1
    have h5 := room_bd h3
    have h6 : lenAt N (atStep N q a wy ss i).1 ≤ 300 := by
      have h := h3
      simp only [spotP, inR, Bool.and_eq_true, decide_eq_true_eq] at h
      obtain ⟨k, hk⟩ := Int.eq_ofNat_of_zero_le (show 0 ≤ (atStep N q a wy ss i).1 by omega)
      rw [hk]
      exact (hN.len_at (by omega)).2
    simp only [strTo]
    omega
theorem steps_short {N : Nt} {ss : List (Int × Int)} (hn : N.pcs.length ≤ 100) (h1 : ss.length ≤ 2 * N.pcs.length + 1) (h2 : ∀ s ∈ ss, stepOk N.pcs.length s = true) : stepsP N ss = true := by
  simp only [stepsP, Bool.and_eq_true, decide_eq_true_eq, List.all_eq_true]
  exact ⟨by omega, h2⟩
/-- A shortest way's length on a drawn track. -/
theorem short_small {N : Nt} {hr : netOk N = (0, 0)} (hN : NetBd N) (hn : N.pcs.length ≤ 9) {q a wy q' a' wy' : Int} (hs : spotP N q a wy = true) (hs' : spotP N q' a' wy' = true) {y : Wy} (h : shortP N hr q a wy q' a' wy' = some y) : 0 ≤ y.far ∧ y.far ≤ 5700 ∧ 1 ≤ y.ss.length ∧ y.ss.length ≤ 19 ∧ stepsP N y.ss = true := by
  obtain ⟨h1, h2, h3, h4, h5, h6, h7⟩ := short_left hs hs' h
  have hst := steps_short (by omega) h6 h7
  have h8 := strTo_ge hN hr hs hst h4 y.ss.length (Nat.le_refl _)
  rw [h1] at h8
  exact ⟨h4, by omega, h3, by omega, hst⟩
/-- What is told of a shortest way's stretch. -/
theorem short_stretch {N : Nt} {hr : netOk N = (0, 0)} (hN : NetBd N) (hn : N.pcs.length ≤ 9) {q a wy q' a' wy' : Int} (hs : spotP N q a wy = true) (hs' : spotP N q' a' wy' = true) {y : Wy} (h : shortP N hr q a wy q' a' wy' = some y) : (stretchP N true y.far y.ss q a wy = [] ∧ liesQ N y.ss = none) ∨ (stretchP N true y.far y.ss q a wy).length = y.ss.length ∧ (stretchP N true y.far y.ss q a wy).all partOk = true ∧ lenSum (stretchP N true y.far y.ss q a wy) = y.far := by
  obtain ⟨h1, h2, h3, h4, h5, h6, h7⟩ := short_left hs hs' h
  obtain ⟨g1, g2, g3, g4, g5⟩ := short_small hN hn hs hs' h
  by_cases hl : liesTo N y.ss (y.ss.length - 1) = none
  · refine .inl ⟨str_not fun hk => hk.2.2.2.2.2.2.2 hl, ?_⟩
    unfold liesQ
    rw [if_pos ⟨hr, g5⟩, hl]
  · have hok : StrOk N true y.far y.ss q a wy := ⟨rfl, hr, hs, inR_of g1 (by omega), by omega, h2, g5, hl⟩
    have hs2 := strTo_sum (far := y.far) hr hs g5 h4 y.ss.length (Nat.le_refl _)
    rw [str_all hok (by rw [h1]; omega), strTo_len]
    exact .inr ⟨rfl, hs2.2, by rw [hs2.1, h1]; omega⟩
theorem want_bd {N : Nt} (hN : NetBd N) (hr : netOk N = (0, 0)) {a b : Int × Int} (ha : stepOk N.pcs.length a = true) (hb : stepOk N.pcs.length b = true) {j : Nat} {l : Int} (h : wantP N a b = some (j, l)) : j < N.jts.length ∧ 0 ≤ l ∧ l ≤ 40 := by
  obtain ⟨_, _, hj1, hk1, _⟩ := seat_look hr (stepOk_ends ha).1
  obtain ⟨_, _, hj2, hk2, _⟩ := seat_look hr (stepOk_ends hb).2
  have b1 := (hN.jends _ (List.getElem_mem hj1)).2
  have b2 := (hN.jends _ (List.getElem_mem hj2)).2
  unfold wantP at h
  rw [List.getElem?_eq_getElem hj1] at h
  dsimp only at h
  split at h
  · obtain ⟨rfl, rfl⟩ := Prod.mk.inj (Option.some.inj h)
    refine ⟨hj1, ?_⟩
    split <;> omega
  · cases h
theorem liesTo_bd {N : Nt} (hN : NetBd N) (hr : netOk N = (0, 0)) {ss : List (Int × Int)} (h : stepsP N ss = true) : ∀ (i : Nat) (out : List (Int × Int)), i < ss.length → liesTo N ss i = some out → ∀ p ∈ out, 0 ≤ p.1 ∧ p.1 < N.jts.length ∧ 0 ≤ p.2 ∧ p.2 ≤ 40
  | 0, out, _, ho => by
    obtain rfl := Option.some.inj ho
    intro p hp
    simp at hp
  | i + 1, out, hi, ho => by
    rw [liesTo] at ho
    split at ho
    · cases ho
    · rename_i o2 h2
      have ih := liesTo_bd hN hr h i o2 (by omega) h2
      split at ho
      · cases ho
      · rename_i j l hw
        have hb := want_bd hN hr (steps_at h (show i < ss.length by omega)) (steps_at h hi) hw
        unfold lieAdd at ho
        split at ho
        · obtain rfl := Option.some.inj ho; exact ih
        · split at ho
          · cases ho
          · split at ho
            · obtain rfl := Option.some.inj ho; exact ih
            · obtain rfl := Option.some.inj ho
              intro p hp
              rcases List.mem_append.1 hp with hp | hp
              · exact ih p hp
              · rw [List.mem_singleton.1 hp]
                exact ⟨by omega, by show (j : Int) < _; omega, hb.2.1, hb.2.2⟩
/-- The switches of a way on a drawn track. -/
theorem liesQ_bd {N : Nt} (hN : NetBd N) (hr : netOk N = (0, 0)) {ss : List (Int × Int)} (h : stepsP N ss = true) (h1 : 1 ≤ ss.length) : ∀ p ∈ (liesQ N ss).getD [], 0 ≤ p.1 ∧ p.1 < N.jts.length ∧ 0 ≤ p.2 ∧ p.2 ≤ 40 := by
  intro p hp
  unfold liesQ at hp
  rw [if_pos ⟨hr, h⟩] at hp
  cases hl : liesTo N ss (ss.length - 1) with
  | none => rw [hl] at hp; simp at hp
  | some out => rw [hl] at hp; exact liesTo_bd hN hr h _ out (by omega) hl p hp
end Go.Proofs.YtijdigdcmjdooaaGreat

/- A path's box. Own work. -/
namespace Go.Proofs.YtijdigdcmjdooaaGreat
open Go.RowKit Go.Sort
set_option maxHeartbeats 1000000

/-- A path's box that holds nothing yet. -/
def ZeroP (w : World) (b : Nat) : Prop := (w.cell? ⟨b, 0, none⟩ = some (.bool false) ∧ w.cell? ⟨b, 1, none⟩ = some (.int .i64 0) ∧ w.cell? ⟨b, 2, none⟩ = some (.slice none 0 0) ∧ w.cell? ⟨b, 3, none⟩ = some (.slice none 0 0)) ∧ (∀ o, w.frozen? ⟨b, o, none⟩ = false) ∧ ∀ cur fz, w.heap[b]? ≠ some (.cells cur 132 fz)
theorem ZeroP.later {w w' : World} {b : Nat} (h : ZeroP w b) (hb : Below w.heap.size w w') : ZeroP w' b := by
  obtain ⟨⟨h0, h1, h2, h3⟩, hf, hT⟩ := h
  exact ⟨⟨cell_later' hb h0, cell_later' hb h1, cell_later' hb h2, cell_later' hb h3⟩, fun o => by rw [hb.frozen (p := ⟨b, o, none⟩) (cell_lt h0)]; exact hf o, fun cur fz => by rw [hb.block b (cell_lt h0)]; exact hT cur fz⟩
theorem ZeroP.new (w : World) : ZeroP (w.alloc (.cells #[.bool false, .int .i64 0, .slice none 0 0, .slice none 0 0] 37)) w.heap.size := by
  refine ⟨⟨new_cell w _ _ 0 _ rfl, new_cell w _ _ 1 _ rfl, new_cell w _ _ 2 _ rfl, new_cell w _ _ 3 _ rfl⟩, fun o => by simp [go_sem], fun cur fz e => ?_⟩
  rw [heap_alloc_new] at e
  simp at e
abbrev put4 (w : World) (b : Nat) (x0 x1 x2 x3 : Value) : World := (((w.setCell ⟨b, 0, none⟩ x0).setCell ⟨b, 1, none⟩ x1).setCell ⟨b, 2, none⟩ x2).setCell ⟨b, 3, none⟩ x3
theorem mid4 (w : World) (b : Nat) (x0 x1 x2 x3 : Value) : Mid b (b + 1) w (put4 w b x0 x1 x2 x3) :=
  ((((Mid.refl _ _ _).setCell (Nat.le_refl _) (by omega) _).setCell (Nat.le_refl _) (by omega) _).setCell (Nat.le_refl _) (by omega) _).setCell (Nat.le_refl _) (by omega) _
theorem below4 {W w : World} {b : Nat} (h : Below W.heap.size W w) (hb : W.heap.size ≤ b) (x0 x1 x2 x3 : Value) : Below W.heap.size W (put4 w b x0 x1 x2 x3) :=
  (((h.setCell hb x0).setCell hb x1).setCell hb x2).setCell hb x3
theorem ends_mid {w w' : World} {g : Nat} {z : Option Addr} {es : List (Int × Int)} (h : EndsAt w z es) (hm : Mid g (g + 1) w w') (hne : ∀ b o, z = some ⟨b, o, none⟩ → b ≠ g) : EndsAt w' z es := by
  intro k hk
  obtain ⟨b, off, rfl, h1, h2⟩ := h k hk
  have := hne b off rfl
  exact ⟨b, off, rfl, hm.cell (by show b < g ∨ g + 1 ≤ b; omega) h1, hm.cell (by show b < g ∨ g + 1 ≤ b; omega) h2⟩
theorem owns_ge {w : World} {base : Nat} {e : TypeId} {v : Value} {n : Nat} {xs : List Value} (h : w.ownsRow base e 2 v n xs) {b o n' c : Nat} (hv : v = .slice (some ⟨b, o, none⟩) n' c) : base ≤ b := by
  subst hv
  exact (h.lt b rfl).1
end Go.Proofs.YtijdigdcmjdooaaGreat

/- impl.Shortest; written by gen_shb.py. Own work. -/
namespace Go.Proofs.YtijdigdcmjdooaaGreat
open Go.RowKit Go.Sort
set_option maxHeartbeats 8000000
set_option maxRecDepth 100000

/-- What is read of three boxes. -/
abbrev SS (W wx : World) (bN bA bB : Nat) (v0 v1 : Value) (q a wy q' a' wy' : Int) : Prop :=
  (wx.cell? ⟨bN, 0, none⟩ = some v0 ∧ wx.cell? ⟨bN, 1, none⟩ = some v1 ∧ wx.cell? ⟨bA, 0, none⟩ = some (.int .i64 q) ∧ wx.cell? ⟨bA, 1, none⟩ = some (.int .i64 a) ∧ wx.cell? ⟨bA, 2, none⟩ = some (.int .i64 wy) ∧ wx.cell? ⟨bB, 0, none⟩ = some (.int .i64 q') ∧ wx.cell? ⟨bB, 1, none⟩ = some (.int .i64 a') ∧ wx.cell? ⟨bB, 2, none⟩ = some (.int .i64 wy')) ∧ Hid (Below W.heap.size W wx)
section
variable {W w2 w3 : World} {bN bA bB : Nat} {v0 v1 : Value} {q a wy q' a' wy' : Int}
theorem heldS (h : SS W w2 bN bA bB v0 v1 q a wy q' a' wy') : Below W.heap.size W w2 := h.2.out
theorem keepS (hb : Below w2.heap.size w2 w3) (h : SS W w2 bN bA bB v0 v1 q a wy q' a' wy') : SS W w3 bN bA bB v0 v1 q a wy q' a' wy' := by
  obtain ⟨⟨h0, h1, h3, h4, h5, h6, h7, h8⟩, hw⟩ := h
  exact ⟨⟨cell_later' hb h0, cell_later' hb h1, cell_later' hb h3, cell_later' hb h4, cell_later' hb h5, cell_later' hb h6, cell_later' hb h7, cell_later' hb h8⟩, hw.out.trans (hb.mono hw.out.size)⟩
theorem rebaseS (h : SS W w2 bN bA bB v0 v1 q a wy q' a' wy') : SS w2 w2 bN bA bB v0 v1 q a wy q' a' wy' := ⟨h.1, Below.refl _ _⟩
theorem putS {b : Nat} (hb : W.heap.size ≤ b) (hL : bN < W.heap.size) (hA : bA < W.heap.size) (hB : bB < W.heap.size) (h : SS W w2 bN bA bB v0 v1 q a wy q' a' wy') (x0 x1 : Value) : SS W ((w2.setCell ⟨b, 0, none⟩ x0).setCell ⟨b, 1, none⟩ x1) bN bA bB v0 v1 q a wy q' a' wy' := by
  have hm : Mid b (b + 1) w2 ((w2.setCell ⟨b, 0, none⟩ x0).setCell ⟨b, 1, none⟩ x1) := ((Mid.refl _ _ _).setCell (Nat.le_refl _) (by omega) _).setCell (Nat.le_refl _) (by omega) _
  obtain ⟨⟨h0, h1, h3, h4, h5, h6, h7, h8⟩, hw⟩ := h
  exact ⟨⟨hm.cell (.inl (by omega)) h0, hm.cell (.inl (by omega)) h1, hm.cell (.inl (by omega)) h3, hm.cell (.inl (by omega)) h4, hm.cell (.inl (by omega)) h5, hm.cell (.inl (by omega)) h6, hm.cell (.inl (by omega)) h7, hm.cell (.inl (by omega)) h8⟩, (hw.out.setCell hb _).setCell hb _⟩
end
/-- What is read of a net's box and a trail's. -/
abbrev SR (W wx : World) (bN bR : Nat) (v0 v1 : Value) (far : Int) (sv : Value) : Prop :=
  (wx.cell? ⟨bN, 0, none⟩ = some v0 ∧ wx.cell? ⟨bN, 1, none⟩ = some v1 ∧ wx.cell? ⟨bR, 0, none⟩ = some (.int .i64 far) ∧ wx.cell? ⟨bR, 1, none⟩ = some sv) ∧ Hid (Below W.heap.size W wx)
theorem keepR {W w2 w3 : World} {bN bR : Nat} {v0 v1 : Value} {far : Int} {sv : Value} (hb : Below w2.heap.size w2 w3) (h : SR W w2 bN bR v0 v1 far sv) : SR W w3 bN bR v0 v1 far sv := by
  obtain ⟨⟨h0, h1, h2, h3⟩, hw⟩ := h
  exact ⟨⟨cell_later' hb h0, cell_later' hb h1, cell_later' hb h2, cell_later' hb h3⟩, hw.out.trans (hb.mono hw.out.size)⟩
theorem heldR {W w2 : World} {bN bR : Nat} {v0 v1 : Value} {far : Int} {sv : Value} (h : SR W w2 bN bR v0 v1 far sv) : Below W.heap.size W w2 := h.2.out
theorem implSpotOk_q (a a' : Option Addr) (N : Nt) (cap cap' : Nat) (q at' way : Int) (w : World) {r : Bool} (hr : spotOkP N q at' way = r) (hwf : Wf3 q at' way) (hn : N.pcs.length ≤ 1048576) (hs : ∀ p ∈ N.pcs, p.name.size ≤ 1048576) (hl : N.jts.length ≤ 1048576) (hm : ∀ j ∈ N.jts, j.name.size ≤ 1048576 ∧ j.ends.length ≤ 1048576) (hp : PcsAt w a N.pcs) (hj : JtsAt w a' N.jts) (d : Nat) (os : Array Obj) :
    Calls Tryz.prog 25 #[.agg #[.slice a N.pcs.length cap, .slice a' N.jts.length cap'], .agg #[.int .i64 q, .int .i64 at', .int .i64 way]] (grow (redrawn w d) os) fun e w'' =>
    e = .returned (.bool r) ∧ ∃ p : Regrown, w'' = grow (redrawn w p.d) p.os :=
  Calls.regrown_of ((implSpotOk_any a a' N cap cap' q at' way _ hwf hn hs hl hm (hp.later (below_regrown w d os)) (hj.later (below_regrown w d os))).mono fun _ _ h' => ⟨by rw [h'.1, hr], h'.2⟩)
theorem implShortest_any (a a' : Option Addr) (N : Nt) (cap cap' : Nat) (q at1 wy q' at2 wy' : Int) (w : World) (hright : netOk N = (0, 0)) (hw1 : Wf3 q at1 wy) (hw2 : Wf3 q' at2 wy') (hs : spotP N q at1 wy = true) (hs' : spotP N q' at2 wy' = true) (hn : N.pcs.length ≤ 100) (hsz : ∀ p ∈ N.pcs, p.name.size ≤ 1048576) (hl : N.jts.length ≤ 1048576) (hm : ∀ j ∈ N.jts, j.name.size ≤ 1048576 ∧ j.ends.length ≤ 1048576) (hP : PcsAt w a N.pcs) (hJ : JtsAt w a' N.jts) :
    Calls Tryz.prog 10 #[.agg #[.slice a N.pcs.length cap, .slice a' N.jts.length cap'], .agg #[.int .i64 q, .int .i64 at1, .int .i64 wy], .agg #[.int .i64 q', .int .i64 at2, .int .i64 wy']] w fun e w' =>
    ∃ v, e = .returned v ∧ PathR N (shortP N hright q at1 wy q' at2 wy') v w' ∧ Below w.heap.size w w' := by
  have HP := hide hP
  have HJ := hide hJ
  have HR := hide hright
  have HS := hide hs
  have HS' := hide hs'
  have HM := hide hm
  have HME := hide (fun j (hj : j ∈ N.jts) => (HM.out j hj).2)
  have HW := hide (ends_wf (show N.pcs.length ≤ 1048576 by omega) (right_facts hright).2.2.1)
  have HSZ := hide hsz
  have HWA := hide hw1
  have HWB := hide hw2
  have HQ1 := hide (show spotOkP N q at1 wy = true by simp [spotOkP, hright, hs])
  have HQ2 := hide (show spotOkP N q' at2 wy' = true by simp [spotOkP, hright, hs'])
  clear hP hJ hm hsz hw1 hw2 hs hs'
  go_enter Tryz.func10, Tryz.ntmps10
  have HS4 : Hid (SS ((((w.alloc (.cells #[.slice a N.pcs.length cap, .slice a' N.jts.length cap'] 26)).alloc (.cells #[.int .i64 q, .int .i64 at1, .int .i64 wy] 29)).alloc (.cells #[.int .i64 q', .int .i64 at2, .int .i64 wy'] 29)).alloc (.cells #[.bool false, .int .i64 0, .slice none 0 0, .slice none 0 0] 37)) ((((w.alloc (.cells #[.slice a N.pcs.length cap, .slice a' N.jts.length cap'] 26)).alloc (.cells #[.int .i64 q, .int .i64 at1, .int .i64 wy] 29)).alloc (.cells #[.int .i64 q', .int .i64 at2, .int .i64 wy'] 29)).alloc (.cells #[.bool false, .int .i64 0, .slice none 0 0, .slice none 0 0] 37)) w.heap.size (w.heap.size + 1) (w.heap.size + 1 + 1) (.slice a N.pcs.length cap) (.slice a' N.jts.length cap') q at1 wy q' at2 wy') :=
    ⟨⟨by simp [go_sem], by simp [go_sem], by simp [go_sem], by simp [go_sem], by simp [go_sem], by simp [go_sem], by simp [go_sem], by simp [go_sem]⟩, Below.refl _ _⟩
  have HZ4 : Hid (ZeroP ((((w.alloc (.cells #[.slice a N.pcs.length cap, .slice a' N.jts.length cap'] 26)).alloc (.cells #[.int .i64 q, .int .i64 at1, .int .i64 wy] 29)).alloc (.cells #[.int .i64 q', .int .i64 at2, .int .i64 wy'] 29)).alloc (.cells #[.bool false, .int .i64 0, .slice none 0 0, .slice none 0 0] 37)) (w.heap.size + 1 + 1 + 1)) := by
    show ZeroP _ _
    have h := ZeroP.new (((w.alloc (.cells #[.slice a N.pcs.length cap, .slice a' N.jts.length cap'] 26)).alloc (.cells #[.int .i64 q, .int .i64 at1, .int .i64 wy] 29)).alloc (.cells #[.int .i64 q', .int .i64 at2, .int .i64 wy'] 29))
    simpa only [World.size_alloc] using h
  have HB4 : Hid (Below w.heap.size w ((((w.alloc (.cells #[.slice a N.pcs.length cap, .slice a' N.jts.length cap'] 26)).alloc (.cells #[.int .i64 q, .int .i64 at1, .int .i64 wy] 29)).alloc (.cells #[.int .i64 q', .int .i64 at2, .int .i64 wy'] 29)).alloc (.cells #[.bool false, .int .i64 0, .slice none 0 0, .slice none 0 0] 37))) := (((((Below.refl _ _).alloc (Nat.le_refl _) _).alloc (by simp) _).alloc (by simp; omega) _).alloc (by simp; omega) _)
  go_upto_region 1 with fail
  generalize ((((w.alloc (.cells #[.slice a N.pcs.length cap, .slice a' N.jts.length cap'] 26)).alloc (.cells #[.int .i64 q, .int .i64 at1, .int .i64 wy] 29)).alloc (.cells #[.int .i64 q', .int .i64 at2, .int .i64 wy'] 29)).alloc (.cells #[.bool false, .int .i64 0, .slice none 0 0, .slice none 0 0] 37)) = w4 at *
  have hz4 := cell_lt HZ4.out.1.1
  obtain ⟨⟨n0, n1, a0, a1, a2, b0, b1, b2⟩, _⟩ := HS4.out
  go_wp2_with fail
  refine (implSpotOk_any a a' N cap cap' q at1 wy _ HWA.out (by omega) HSZ.out hl HM.out (HP.out.later HB4.out) (HJ.out.later HB4.out)).mono ?_
  rintro e w5 ⟨rfl, hb5⟩
  rw [HQ1.out]
  have HS5 := hide (rebaseS (keepS hb5 HS4.out))
  have HZ5 := hide (HZ4.out.later hb5)
  have HB5 := hide (HB4.out.trans (hb5.mono HB4.out.size))
  have hs5 := hb5.size
  clear HS4 HZ4 HB4 hb5 n0 n1 a0 a1 a2 b0 b1 b2
  obtain ⟨⟨n0, n1, a0, a1, a2, b0, b1, b2⟩, _⟩ := HS5.out
  go_wp2_with fail
  refine (implSpotOk_any a a' N cap cap' q' at2 wy' _ HWB.out (by omega) HSZ.out hl HM.out (HP.out.later HB5.out) (HJ.out.later HB5.out)).mono ?_
  rintro e w6 ⟨rfl, hb6⟩
  rw [HQ2.out]
  have HS6 := hide (rebaseS (keepS hb6 HS5.out))
  have HZ6 := hide (HZ5.out.later hb6)
  have HB6 := hide (HB5.out.trans (hb6.mono HB5.out.size))
  have hs6 := hb6.size
  clear HS5 HZ5 HB5 hb6 n0 n1 a0 a1 a2 b0 b1 b2
  go_upto_region 3 with fail
  have h5L : w.heap.size < w6.heap.size := by omega
  have h5A : w.heap.size + 1 < w6.heap.size := by omega
  have h5B : w.heap.size + 1 + 1 < w6.heap.size := by omega
  have HK1 := hide (keepS ((Below.refl w6.heap.size w6).drew) HS6.out)
  have HK2 := hide (keepS (((Below.refl w6.heap.size w6).alloc (Nat.le_refl _) (.cells #[.int .i64 0, .slice none 0 0] 101)).drew) HS6.out)
  have HPS := hide (fun wx (h : SS w6 wx w.heap.size (w.heap.size + 1) (w.heap.size + 1 + 1) (.slice a N.pcs.length cap) (.slice a' N.jts.length cap') q at1 wy q' at2 wy') => HP.out.later (HB6.out.trans ((heldS h).mono HB6.out.size)))
  have HJS := hide (fun wx (h : SS w6 wx w.heap.size (w.heap.size + 1) (w.heap.size + 1 + 1) (.slice a N.pcs.length cap) (.slice a' N.jts.length cap') q at1 wy q' at2 wy') => HJ.out.later (HB6.out.trans ((heldS h).mono HB6.out.size)))
  go_cut [7, 8] from 9 to 39 (fun s7 s8 wz => ∃ bR far z nn c ok, s7 = .pointer (some ⟨bR, 0, none⟩) ∧ s8 = .bool ok ∧ wz.cell? ⟨bR, 0, none⟩ = some (.int .i64 far) ∧ wz.cell? ⟨bR, 1, none⟩ = some (.slice z nn c) ∧ Hid (FoundO (shortP N hright q at1 wy q' at2 wy') wz far z nn ok) ∧ Hid (Below w6.heap.size w6 wz))
  case first =>
    go_region_held3 (fun wx => SS w6 wx w.heap.size (w.heap.size + 1) (w.heap.size + 1 + 1) (.slice a N.pcs.length cap) (.slice a' N.jts.length cap') q at1 wy q' at2 wy')
      (first
        | (with_reducible exact HK1.out)
        | (with_reducible exact HK2.out)
        | (with_reducible exact HGU.out)
        | (with_reducible exact HGUa.out)
        | (with_reducible exact HGUf.out)
        | (with_reducible exact HGUp.out)
        | (with_reducible exact HGT.out)
        | (with_reducible exact HGTa.out))
      (first
        | (go_at_call 27; refine (layoutOf_any a a' N cap cap' _ hl HME.out HW.out (HJS.out _ (by assumption))).mono ?_; rintro e wT ⟨m, n, rfl, hSE, _, hbT⟩; have HGT : Hid (SS w6 wT w.heap.size (w.heap.size + 1) (w.heap.size + 1 + 1) (.slice a N.pcs.length cap) (.slice a' N.jts.length cap') q at1 wy q' at2 wy') := keepS hbT (by assumption); have HGTa := hide (keepS ((Below.refl wT.heap.size wT).alloc (Nat.le_refl _) (.cells #[.int .i64 0, .slice none 0 0] 101)) HGT.out); have sT : w6.heap.size ≤ wT.heap.size := (heldS HGT.out).size; (first | (with_reducible (have hC : Below w6.drew.heap.size w6.drew wT := hbT)) | (have HZT : Hid (ZeroT wT w6.heap.size) := zeroT_of hbT)); have HSE := hide hSE; have HSEa := hide (hSE.of_block (Below.heap_alloc wT (.cells #[.int .i64 0, .slice none 0 0] 101) m hSE.lt)); clear hSE hbT)
        | (go_at_call 42; refine (trailTo_any a a' N cap cap' m n q at1 wy q' at2 wy' _ HR.out HS.out HS'.out (HPS.out _ (by assumption)) (HJS.out _ (by assumption)) (by first | (with_reducible exact HSE.out) | (with_reducible exact HSEa.out))).mono ?_; rintro e wU ⟨far, z, nn, c, ok, rfl, hFU, hbU⟩; have HGU : Hid (SS w6 wU w.heap.size (w.heap.size + 1) (w.heap.size + 1 + 1) (.slice a N.pcs.length cap) (.slice a' N.jts.length cap') q at1 wy q' at2 wy') := keepS hbU (by assumption); have HGUa := hide (keepS ((Below.refl wU.heap.size wU).alloc (Nat.le_refl _) (.cells #[.int .i64 0, .slice none 0 0] 101)) HGU.out); have HGUf := hide (keepS ((Below.refl wU.heap.size wU).alloc (Nat.le_refl _) (.cells #[.int .i64 far, .slice z nn c] 101)) HGU.out); have sU : w6.heap.size ≤ wU.heap.size := (heldS HGU.out).size; (first | ((with_reducible (have hD : Below wT.heap.size wT wU := hbU)); (first | (have HZU := hide (HZT.out.later hbU); have HGUp := hide (putS (b := w6.heap.size) (by omega) h5L h5A h5B HGU.out (.int .i64 far) (.slice z nn c)); obtain ⟨⟨a0, a1⟩, fz, _⟩ := HZU.out; have f0 := fz 0; have f1 := fz 1; have hal0 := cell_lt a0; clear fz) | skip)) | (have HZU : Hid (ZeroT wU wT.heap.size) := zeroT_of' hbU; have HGUp := hide (putS (b := wT.heap.size) (by omega) h5L h5A h5B HGU.out (.int .i64 far) (.slice z nn c)); obtain ⟨⟨a0, a1⟩, fz, _⟩ := HZU.out; have f0 := fz 0; have f1 := fz 1; have hal0 := cell_lt a0; clear fz)); have HFU := hide hFU; clear hFU hbU))
    all_goals
      first
        | (have HFP := hide (HFU.out.put HZU.out (.int .i64 far) (.slice z nn c)); have hcp := inT_put HZU.out (.int .i64 far) (.slice z nn c); have hcp0 := inT_put0 HZU.out (.int .i64 far) (.slice z nn c); have HBP := hide (HZU.out.below (heldS HGU.out) (by omega) (.int .i64 far) (.slice z nn c)); go_wp2_with fail; go_meet; (case rel => exact ⟨_, far, z, nn, c, ok, rfl, rfl, hcp0, hcp, HFP, HBP⟩))
        | (have hAT := (Below.refl wU.heap.size wU).alloc (Nat.le_refl _) (.cells #[.int .i64 far, .slice z nn c] 101); have HFP := hide (HFU.out.later hAT); have hcp0 := new_cell wU #[.int .i64 far, .slice z nn c] 101 0 (.int .i64 far) rfl; have hcp := new_cell wU #[.int .i64 far, .slice z nn c] 101 1 (.slice z nn c) rfl; have HBP := hide ((heldS HGU.out).trans (hAT.mono sU)); go_wp2_with fail; go_meet; (case rel => exact ⟨_, far, z, nn, c, ok, rfl, rfl, hcp0, hcp, HFP, HBP⟩))
  case rest =>
    obtain ⟨bR, far, z, nn, c, ok, rfl, rfl, r0, r1, HFO, HB9⟩ := hcut
    rename World => w9
    have HZ9 := hide (HZ6.out.later HB9.out)
    have n0 := cell_later' HB9.out HS6.out.1.1
    have n1 := cell_later' HB9.out HS6.out.1.2.1
    have HB9' := hide (HB6.out.trans (HB9.out.mono HB6.out.size))
    have hs9 := HB9.out.size
    clear HS6 HZ6 HB9 HK1 HK2 HPS HJS
    cases ok with
    | false =>
      have HN := hide (show shortP N hright q at1 wy q' at2 wy' = none by
        rcases HFO.out with ⟨h, _⟩ | ⟨_, _, h, _⟩
        · exact h
        · cases h)
      obtain ⟨⟨z0, z1, z2, z3⟩, fz, hT⟩ := HZ9.out
      have f0 := fz 0
      have f1 := fz 1
      have f2 := fz 2
      have f3 := fz 3
      have hz6 := cell_lt z0
      have HB7 := hide (below4 (b := w.heap.size + 1 + 1 + 1) HB9'.out (by omega) (.bool false) (.int .i64 0) (.slice none 0 0) (.slice none 0 0))
      clear fz hT r0 r1 n0 n1
      go_wp2_with fail
      exact bodyPost_ret (v := .agg #[.bool false, .int .i64 0, .slice none 0 0, .slice none 0 0]) (by simp [results, Tryz.results10, go_sem, z0, z1, z2, z3]) rfl ⟨_, rfl, .inl ⟨HN.out, rfl⟩, HB7.out⟩
    | true =>
      obtain ⟨y, hy, _, hfy, hny, hSY⟩ : ∃ y, shortP N hright q at1 wy q' at2 wy' = some y ∧ true = true ∧ far = y.far ∧ nn = y.ss.length ∧ StRow w9 z y.ss := by
        rcases HFO.out with ⟨_, h⟩ | h
        · cases h
        · exact h
      subst hny
      subst hfy
      have hxl : y.ss.length ≤ 1048576 := by
        have h := (short_left HS.out HS'.out hy).2.2.2.2.2.1
        omega
      have HY := hide hy
      have HSY := hide hSY
      clear hy hSY HFO
      go_upto_region 6 with fail
      have HK1 : Hid (SR w9 w9.drew w.heap.size bR (.slice a N.pcs.length cap) (.slice a' N.jts.length cap') y.far (.slice z y.ss.length c)) := keepR ((Below.refl w9.heap.size w9).drew) ⟨⟨n0, n1, r0, r1⟩, Below.refl _ _⟩
      clear n0 n1 r0 r1
      refine wp_region_K (S := fun wx => SR w9 wx w.heap.size bR (.slice a N.pcs.length cap) (.slice a' N.jts.length cap') y.far (.slice z y.ss.length c)) (k := 9) (by kernel_rfl) ?_
      refine wpAnyK_take (i := 0) (v := ?_) rfl rfl (by kernel_rfl) (by decide) (by kernel_rfl) (by kernel_rfl) (by kernel_rfl) (fun _ _ _ h => h) (Or.inl ⟨by rfl, ?_⟩) HK1.out ?_
      rotate_left
      · (intro w hSw; (try dsimp only at hSw); go_simp)
        all_goals with_reducible rfl
      try simp only [Act.put, List.setIfInBounds_toArray]
      refine wpAnyK_take (i := 1) (v := ?_) rfl rfl (by kernel_rfl) (by decide) (by kernel_rfl) (by kernel_rfl) (by kernel_rfl) (fun _ _ _ h => h) (Or.inl ⟨by rfl, ?_⟩) HK1.out ?_
      rotate_left
      · (intro w hSw; (try dsimp only at hSw); go_simp)
        all_goals with_reducible rfl
      try simp only [Act.put]
      refine wpAnyK_take (i := 2) (v := ?_) rfl rfl (by kernel_rfl) (by decide) (by kernel_rfl) (by kernel_rfl) (by kernel_rfl) (fun _ _ _ h => h) (Or.inl ⟨by rfl, ?_⟩) HK1.out ?_
      rotate_left
      · (intro w hSw; (try dsimp only at hSw); go_simp)
        all_goals with_reducible rfl
      try simp only [Act.put]
      refine wpAnyK_take (i := 3) (v := ?_) rfl rfl (by kernel_rfl) (by decide) (by kernel_rfl) (by kernel_rfl) (by kernel_rfl) (fun _ _ _ h => h) (Or.inl ⟨by rfl, ?_⟩) HK1.out ?_
      rotate_left
      · (intro w hSw; (try dsimp only at hSw); go_simp)
        all_goals with_reducible rfl
      try simp only [Act.put]
      refine wpAnyK_take (i := 4) (v := ?_) rfl rfl (by kernel_rfl) (by decide) (by kernel_rfl) (by kernel_rfl) (by kernel_rfl) (fun _ _ _ h => h) (Or.inl ⟨by rfl, ?_⟩) HK1.out ?_
      rotate_left
      · (intro w hSw; (try dsimp only at hSw); go_simp)
        all_goals with_reducible rfl
      try simp only [Act.put]
      refine wpAnyK_take (i := 5) (v := ?_) rfl rfl (by kernel_rfl) (by decide) (by kernel_rfl) (by kernel_rfl) (by kernel_rfl) (fun _ _ _ h => h) (Or.inl ⟨by rfl, ?_⟩) HK1.out ?_
      rotate_left
      · (intro w hSw; (try dsimp only at hSw); go_simp)
        all_goals with_reducible rfl
      try simp only [Act.put]
      refine wpAnyK_take (i := 6) (v := ?_) rfl rfl (by kernel_rfl) (by decide) (by kernel_rfl) (by kernel_rfl) (by kernel_rfl) (fun _ _ _ h => h) (Or.inl ⟨by rfl, ?_⟩) HK1.out ?_
      rotate_left
      · (intro w hSw; (try dsimp only at hSw); go_simp)
        all_goals with_reducible rfl
      try simp only [Act.put]
      refine wpAnyK_one (i := 7) (by kernel_rfl) rfl (fun K hK => ?_)
      go_simp
      go_at_call 43
      refine (implPathLies_any a a' z N cap cap' c y.ss _ (by omega) HSZ.out hl HM.out hxl (HP.out.later (HB9'.out.trans ((heldR HK1.out).mono HB9'.out.size))) (HJ.out.later (HB9'.out.trans ((heldR HK1.out).mono HB9'.out.size))) (HSY.out.1.later (heldR HK1.out))).mono ?_
      rintro e wU ⟨v, rfl, hOW, h4, hbU⟩
      have HGU : Hid (SR w9 wU w.heap.size bR (.slice a N.pcs.length cap) (.slice a' N.jts.length cap') y.far (.slice z y.ss.length c)) := keepR hbU HK1.out
      obtain ⟨zl, cl, rfl, hLE⟩ := lies_shape hOW
      have HLE := hide hLE
      have HOW := hide hOW
      have HZU := hide (HZ9.out.later (heldR HGU.out))
      clear hLE hOW hbU
      try go_simp
      refine hK.out _ _ HGU.out (fun _ => ?_)
      clear hK K
      try simp only [Act.put, List.setIfInBounds_toArray]
      refine wpAnyK_take (i := 8) (v := ?_) rfl rfl (by kernel_rfl) (by decide) (by kernel_rfl) (by kernel_rfl) (by kernel_rfl) (fun _ _ _ h => h) (Or.inl ⟨by rfl, ?_⟩) HGU.out ?_
      rotate_left
      · (intro w hSw; (try dsimp only at hSw); go_simp)
        all_goals with_reducible rfl
      try simp only [Act.put, List.setIfInBounds_toArray]
      obtain ⟨⟨z0, z1, z2, z3⟩, fz, hT⟩ := HZU.out
      have f0 := fz 0
      have f1 := fz 1
      have f2 := fz 2
      have f3 := fz 3
      have hz6 := cell_lt z0
      have hz9 := cell_lt HZ9.out.1.1
      clear fz hT
      refine wpAnyK_last (by kernel_rfl) rfl (by kernel_rfl) (fun K hK => ?_)
      go_simp
      refine hK.out _ _ ?_
      clear hK K
      have HB7 := hide (below4 (b := w.heap.size + 1 + 1 + 1) (HB9'.out.trans ((heldR HGU.out).mono HB9'.out.size)) (by omega) (.bool true) (.int .i64 y.far) (.slice z y.ss.length c) (.slice zl ((liesQ N y.ss).getD []).length cl))
      have hm := mid4 wU (w.heap.size + 1 + 1 + 1) (.bool true) (.int .i64 y.far) (.slice z y.ss.length c) (.slice zl ((liesQ N y.ss).getD []).length cl)
      have HSF := hide (((HSY.out.later (heldR HGU.out)).mid hm HZU.out.2.2).1)
      have hsU := (heldR HGU.out).size
      have HLF := hide (ends_mid HLE.out hm (fun b o e => by
        subst e
        have h := owns_ge HOW.out rfl
        change w9.heap.size ≤ b at h
        omega))
      clear hm
      go_wp2_with fail
      exact bodyPost_ret (v := .agg #[.bool true, .int .i64 y.far, .slice z y.ss.length c, .slice zl ((liesQ N y.ss).getD []).length cl]) (by simp [results, Tryz.results10, go_sem, z0, z1, z2, z3]) rfl ⟨_, rfl, .inr ⟨y, z, c, zl, cl, HY.out, rfl, HSF.out, HLF.out, h4⟩, HB7.out⟩
end Go.Proofs.YtijdigdcmjdooaaGreat

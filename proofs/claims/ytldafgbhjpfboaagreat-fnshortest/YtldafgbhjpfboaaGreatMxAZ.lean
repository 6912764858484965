/- Nets, ASpot, Lies: what the laws draw; how great it is at most. Own work. -/
import Derived.Test.YtldafgbhjpfboaaGreatDwN
import Derived.Test.YtldafgbhjpfboaaGreatMxAO
import Derived.Test.YtldafgbhjpfboaaGreatMxAX
import Derived.Test.YtldafgbhjpfboaaGreatBeB
import Derived.Test.YtldafgbhjpfboaaGreatMxAQ
import Derived.Test.YtldafgbhjpfboaaGreatMxAY
import Derived.Test.YtldafgbhjpfboaaGreatMxAE
import Derived.Test.YtldafgbhjpfboaaGreatMxAI
import Derived.Test.YtldafgbhjpfboaaGreatMxAH
namespace Go.Proofs.YtldafgbhjpfboaaGreat
open Go.RowKit
set_option maxHeartbeats 2000000

/-! ### How great a drawn track is -/
theorem pcsTo_all (code : List Int) (small : Int) (c0 : Cu) (i : Nat) : ∀ p ∈ (pcsTo code small c0 i).1, ∃ (k : Nat) (c : Cu), k < i ∧ p = pcDraw code small k c := by
  induction i with
  | zero => intro p hp; simp [pcsTo] at hp
  | succ i ih =>
    intro p hp
    simp only [pcsTo, List.mem_append, List.mem_singleton] at hp
    rcases hp with hp | hp
    · obtain ⟨k, c, h1, h2⟩ := ih p hp
      exact ⟨k, c, by omega, h2⟩
    · exact ⟨i, _, by omega, hp⟩
theorem jrun_all (code : List Int) (P : Jt → Prop) (hP : ∀ n es c, 0 < es.length → es.length ≤ 18 → n ≤ 18 → P (jtDraw code n es c)) : ∀ (f : Nat) (js : List Jt) (es : List (Int × Int)) (c : Cu), es.length ≤ 18 → js.length + es.length ≤ 18 → (∀ j ∈ js, P j) → (∀ j ∈ jrun code f js es c, P j) ∧ (jrun code f js es c).length ≤ 18
  | 0, js, es, c, _, h2, h => ⟨h, by simp [jrun]; omega⟩
  | f + 1, js, es, c, h1, h2, h => by
    rw [jrun]
    split
    · exact ⟨h, by omega⟩
    · rename_i h0
      have hk := jtKind_bd code es c (by omega)
      refine jrun_all code P hP f _ _ _ (by simp; omega) (by simp; omega) ?_
      intro j hj
      rcases List.mem_append.1 hj with hj | hj
      · exact h j hj
      · have : j = jtDraw code js.length es c := by simpa using hj
        rw [this]
        exact hP _ _ _ (by omega) h1 (by omega)
structure NetBd (N : Nt) : Prop where
  some : 1 ≤ N.pcs.length
  few : N.pcs.length ≤ 9
  names : ∀ p ∈ N.pcs, p.name.size ≤ 9
  lens : ∀ p ∈ N.pcs, 1 ≤ p.len ∧ p.len ≤ 300
  joints : N.jts.length ≤ 18
  jends : ∀ j ∈ N.jts, j.name.size ≤ 9 ∧ j.ends.length ≤ 18
theorem netP_bd (code : List Int) (c : Cu) : NetBd (netP code c) := by
  have hk := pickV_bd (code := code) (n := 9) (by omega) (pickC code 4 c)
  generalize hK : (1 + pickV code 9 (pickC code 4 c)).toNat = K
  have hK9 : 1 ≤ K ∧ K ≤ 9 := by omega
  have hpcs : (netP code c).pcs = (pcsTo code (pickV code 4 c) (pickC code 9 (pickC code 4 c)) K).1 := by unfold netP; simp only [hK]
  have hjts : (netP code c).jts = jrun code (2 * K) [] (shuf code (2 * K - 1) (endsTo K) (pcsTo code (pickV code 4 c) (pickC code 9 (pickC code 4 c)) K).2).1 (shuf code (2 * K - 1) (endsTo K) (pcsTo code (pickV code 4 c) (pickC code 9 (pickC code 4 c)) K).2).2 := by unfold netP; simp only [hK]
  have hall := pcsTo_all code (pickV code 4 c) (pickC code 9 (pickC code 4 c)) K
  have hes : (shuf code (2 * K - 1) (endsTo K) (pcsTo code (pickV code 4 c) (pickC code 9 (pickC code 4 c)) K).2).1.length = 2 * K := by rw [shuf_len, endsTo_len]
  have hj := jrun_all code (fun j => j.name.size ≤ 9 ∧ j.ends.length ≤ 18) (fun n es c h0 h1 h2 => by
    unfold jtDraw
    refine ⟨?_, ?_⟩
    · dsimp only
      split
      · exact nameP_size (by omega)
      · decide
    · simp; omega) (2 * K) [] _ (shuf code (2 * K - 1) (endsTo K) (pcsTo code (pickV code 4 c) (pickC code 9 (pickC code 4 c)) K).2).2 (by rw [hes]; omega) (by rw [hes]; simp; omega) (fun j hj => by simp at hj)
  refine ⟨?_, ?_, ?_, ?_, ?_, ?_⟩
  · rw [hpcs, pcsTo_len]; omega
  · rw [hpcs, pcsTo_len]; omega
  · intro p hp
    rw [hpcs] at hp
    obtain ⟨k, c', h1, rfl⟩ := hall p hp
    exact nameP_size (by omega)
  · intro p hp
    rw [hpcs] at hp
    obtain ⟨k, c', h1, rfl⟩ := hall p hp
    exact pcLen_bd _ _ _
  · rw [hjts]; exact hj.2
  · intro j hj'
    rw [hjts] at hj'
    exact hj.1 j hj'
theorem NetBd.len_at {N : Nt} (h : NetBd N) {k : Nat} (hk : k < N.pcs.length) : 1 ≤ lenAt N k ∧ lenAt N k ≤ 300 := by
  rw [lenAt_nat N k hk]
  exact h.lens _ (List.getElem_mem hk)

/-! ### Nets -/
def netOfCode (code : List Int) : Nt := netP code ⟨0, 0⟩
def NetsPost (code : List Int) (w : World) (e : Ending) (w' : World) : Prop :=
  ∃ (pa ja : Option Addr) (pcap jcap : Nat), e = .returned (.agg #[.slice pa (netOfCode code).pcs.length pcap, .slice ja (netOfCode code).jts.length jcap]) ∧ PcsAt w' pa (netOfCode code).pcs ∧ JtsAt w' ja (netOfCode code).jts ∧ Below w.heap.size w w'

theorem cur_new {w : World} {a : Option Addr} {n cap : Nat} : CurAt (w.alloc (.cells #[.slice a n cap, .int .i64 0, .int .u64 0] 55)) w.heap.size a n cap ⟨0, 0⟩ :=
  ⟨new_cell w _ _ 0 _ rfl, new_cell w _ _ 1 _ rfl, new_cell w _ _ 2 _ rfl, by simp [go_sem], by simp [go_sem]⟩
theorem off_of {w : World} {a : Option Addr} {code : List Int} {B : Nat} (h : BytesAt w a code) (hB : w.heap.size ≤ B) : OffB a code.length B := by
  intro b off ha
  by_cases h0 : code.length = 0
  · exact .inl h0
  · obtain ⟨b', off', ha', hc⟩ := h 0 (by omega)
    rw [ha] at ha'
    obtain ⟨rfl, rfl⟩ : b = b' ∧ off = off' := by simpa using ha'
    exact .inr (Nat.lt_of_lt_of_le (cell_lt hc) hB)

theorem nets_any (a : Option Addr) (cap : Nat) (code : List Int) (w : World) (hB : Bys code) (hn : code.length ≤ 1048576) (hx : BytesAt w a code) :
    Calls Tryz.prog 4 #[.slice a code.length cap] w fun e w' => NetsPost code w e w' := by
  have HB := hide hB
  have HX := hide hx
  have hbA : Below w.heap.size w ((w.alloc (.cells #[.slice none 0 0, .slice none 0 0] 26)).alloc (.cells #[.slice a code.length cap, .int .i64 0, .int .u64 0] 55)) := ((Below.refl _ _).alloc (Nat.le_refl _) _).alloc (by simp) _
  have HCA : Hid (CurAt ((w.alloc (.cells #[.slice none 0 0, .slice none 0 0] 26)).alloc (.cells #[.slice a code.length cap, .int .i64 0, .int .u64 0] 55)) (w.heap.size + 1) a code.length cap ⟨0, 0⟩) := by
    have := cur_new (w := w.alloc (.cells #[.slice none 0 0, .slice none 0 0] 26)) (a := a) (n := code.length) (cap := cap)
    rw [World.size_alloc] at this
    exact this
  have HO := hide (off_of hx (B := w.heap.size + 1) (by omega))
  have r0 : ((w.alloc (.cells #[.slice none 0 0, .slice none 0 0] 26)).alloc (.cells #[.slice a code.length cap, .int .i64 0, .int .u64 0] 55)).cell? ⟨w.heap.size, 0, none⟩ = some (.slice none 0 0) := by simp [go_sem]
  have r1 : ((w.alloc (.cells #[.slice none 0 0, .slice none 0 0] 26)).alloc (.cells #[.slice a code.length cap, .int .i64 0, .int .u64 0] 55)).cell? ⟨w.heap.size, 1, none⟩ = some (.slice none 0 0) := by simp [go_sem]
  have rf0 : ((w.alloc (.cells #[.slice none 0 0, .slice none 0 0] 26)).alloc (.cells #[.slice a code.length cap, .int .i64 0, .int .u64 0] 55)).frozen? ⟨w.heap.size, 0, none⟩ = false := by simp [go_sem]
  have rf1 : ((w.alloc (.cells #[.slice none 0 0, .slice none 0 0] 26)).alloc (.cells #[.slice a code.length cap, .int .i64 0, .int .u64 0] 55)).frozen? ⟨w.heap.size, 1, none⟩ = false := by simp [go_sem]
  have hzA : ((w.alloc (.cells #[.slice none 0 0, .slice none 0 0] 26)).alloc (.cells #[.slice a code.length cap, .int .i64 0, .int .u64 0] 55)).heap.size = w.heap.size + 2 := by simp
  clear hB hx
  go_enter Tryz.func4, Tryz.ntmps4
  go_wp2_with fail
  generalize ((w.alloc (.cells #[.slice none 0 0, .slice none 0 0] 26)).alloc (.cells #[.slice a code.length cap, .int .i64 0, .int .u64 0] 55)) = w1 at *
  refine (net_any (w.heap.size + 1) a cap code ⟨0, 0⟩ _ HB.out (Nat.zero_le _) hn HO.out HCA.out (HX.out.later hbA)).mono ?_
  rintro e w2 ⟨pa, ja, pcap, jcap, rfl, hIN, hm⟩
  have rf0 := hm.frozen (.inl (by omega)) r0 rf0
  have rf1 := hm.frozen (.inl (by omega)) r1 rf1
  have r0 := hm.cell (.inl (by omega)) r0
  have r1 := hm.cell (.inl (by omega)) r1
  have HIN := hide hIN
  have hb2 : Below w.heap.size w w2 := hbA.trans ((hm.below (by omega)).mono (by omega))
  have hz2 := hm.size
  clear hIN hm HCA HX HO
  go_wp2_with fail
  refine bodyPost_ret (v := .agg #[.slice pa (netP code ⟨0, 0⟩).pcs.length pcap, .slice ja (netP code ⟨0, 0⟩).jts.length jcap]) (by simp [results, Tryz.results4, go_sem, r0, r1]) rfl ?_
  have hle : w.heap.size ≤ w.heap.size := Nat.le_refl _
  obtain ⟨h1, h2⟩ := HIN.out ((w2.setCell ⟨w.heap.size, 0, none⟩ (.slice pa (netP code ⟨0, 0⟩).pcs.length pcap)).setCell ⟨w.heap.size, 1, none⟩ (.slice ja (netP code ⟨0, 0⟩).jts.length jcap)) (fun k hk _ => (Below.heap_setCell _ _ _ _ (by show k ≠ w.heap.size; omega)).trans (Below.heap_setCell _ _ _ _ (by show k ≠ w.heap.size; omega)))
  exact ⟨pa, ja, pcap, jcap, rfl, h1, h2, (hb2.setCell hle _).setCell hle _⟩
end Go.Proofs.YtldafgbhjpfboaaGreat

/- What Shortest answers, in memory; how long it can be on a drawn track. Own work. -/
namespace Go.Proofs.YtldafgbhjpfboaaGreat
open Go.RowKit
set_option maxHeartbeats 1000000

/-- What Shortest answers, in memory. -/
def PathR (N : Nt) (o : Option Wy) (v : Value) (w : World) : Prop :=
  (o = none ∧ v = .agg #[.bool false, .int .i64 0, .slice none 0 0, .slice none 0 0]) ∨
  ∃ (y : Wy) (z : Option Addr) (c : Nat) (zl : Option Addr) (cl : Nat), o = some y ∧ v = .agg #[.bool true, .int .i64 y.far, .slice z y.ss.length c, .slice zl ((liesQ N y.ss).getD []).length cl] ∧ EndsAt w z y.ss ∧ EndsAt w zl ((liesQ N y.ss).getD []) ∧ ((liesQ N y.ss).getD []).length ≤ 400
theorem PathR.later {N : Nt} {o : Option Wy} {v : Value} {w w' : World} (h : PathR N o v w) (hb : Below w.heap.size w w') : PathR N o v w' := by
  rcases h with h | ⟨y, z, c, zl, cl, h1, h2, h3, h4, h5⟩
  · exact .inl h
  · exact .inr ⟨y, z, c, zl, cl, h1, h2, h3.later hb, h4.later hb, h5⟩
theorem lies_of_R {N : Nt} {ss : List (Int × Int)} {base : Nat} {v : Value} {ok : Bool} {w : World} (h : LiesR N ss base v ok w) : ∃ zl cl, v = .slice zl ((liesQ N ss).getD []).length cl ∧ EndsAt w zl ((liesQ N ss).getD []) ∧ ((liesQ N ss).getD []).length ≤ 400 := by
  rcases h with ⟨h1, h2, h3⟩ | ⟨out, h1, h2, h3, h4⟩
  · rw [h1]
    exact ⟨none, 0, h2, fun k hk => by simp at hk, by simp⟩
  · obtain ⟨z, zc, rfl, h5⟩ := lies_shape h4
    rw [h1]
    exact ⟨z, zc, rfl, h5, h3⟩
theorem strTo_ge {N : Nt} {ss : List (Int × Int)} {q a wy far : Int} (hN : NetBd N) (hr : netOk N = (0, 0)) (hs : spotP N q a wy = true) (h : stepsP N ss = true) (hf : 0 ≤ far) : ∀ i, i ≤ ss.length → far - 300 * (i : Int) ≤ (strTo N q a wy far ss i).1
  | 0, _ => by simp [strTo]
  | i + 1, hi => by
    have h1 := strTo_ge hN hr hs h hf i (by omega)
    have h2 := strTo_bd hr hs h hf (show i ≤ ss.length by omega)
    have h3 := atStep_spot hr hs h (show i < ss.length by omega)
    have h4 := goP_bd (left := (strTo N q a wy far ss i).1) h3 h2.1
    have h5 := room_bd h3
    have h6 : lenAt N (atStep N q a wy ss i).1 ≤ 300 := by
      have h := h3
      simp only [spotP, inR, Bool.and_eq_true, decide_eq_true_eq] at h
      obtain ⟨k, hk⟩ := Int.eq_ofNat_of_zero_le (show 0 ≤ (atStep N q a wy ss i).1 by omega)
      rw [hk]
      exact (hN.len_at (by omega)).2
    simp only [strTo]
    omega
theorem steps_short {N : Nt} {ss : List (Int × Int)} (hn : N.pcs.length ≤ 100) (h1 : ss.length ≤ 2 * N.pcs.length + 1) (h2 : ∀ s ∈ ss, stepOk N.pcs.length s = true) : stepsP N ss = true := by
  simp only [stepsP, Bool.and_eq_true, decide_eq_true_eq, List.all_eq_true]
  exact ⟨by omega, h2⟩
/-- A shortest way's length on a drawn track. -/
theorem short_small {N : Nt} {hr : netOk N = (0, 0)} (hN : NetBd N) (hn : N.pcs.length ≤ 9) {q a wy q' a' wy' : Int} (hs : spotP N q a wy = true) (hs' : spotP N q' a' wy' = true) {y : Wy} (h : shortP N hr q a wy q' a' wy' = some y) : 0 ≤ y.far ∧ y.far ≤ 5700 ∧ 1 ≤ y.ss.length ∧ y.ss.length ≤ 19 ∧ stepsP N y.ss = true := by
  obtain ⟨h1, h2, h3, h4, h5, h6, h7⟩ := short_left hs hs' h
  have hst := steps_short (by omega) h6 h7
  have h8 := strTo_ge hN hr hs hst h4 y.ss.length (Nat.le_refl _)
  rw [h1] at h8
  exact ⟨h4, by omega, h3, by omega, hst⟩
/-- What is told of a shortest way's stretch. -/
theorem short_stretch {N : Nt} {hr : netOk N = (0, 0)} (hN : NetBd N) (hn : N.pcs.length ≤ 9) {q a wy q' a' wy' : Int} (hs : spotP N q a wy = true) (hs' : spotP N q' a' wy' = true) {y : Wy} (h : shortP N hr q a wy q' a' wy' = some y) : (stretchP N true y.far y.ss q a wy = [] ∧ liesQ N y.ss = none) ∨ (stretchP N true y.far y.ss q a wy).length = y.ss.length ∧ (stretchP N true y.far y.ss q a wy).all partOk = true ∧ lenSum (stretchP N true y.far y.ss q a wy) = y.far := by
  obtain ⟨h1, h2, h3, h4, h5, h6, h7⟩ := short_left hs hs' h
  obtain ⟨g1, g2, g3, g4, g5⟩ := short_small hN hn hs hs' h
  by_cases hl : liesTo N y.ss (y.ss.length - 1) = none
  · refine .inl ⟨str_not fun hk => hk.2.2.2.2.2.2.2 hl, ?_⟩
    unfold liesQ
    rw [if_pos ⟨hr, g5⟩, hl]
  · have hok : StrOk N true y.far y.ss q a wy := ⟨rfl, hr, hs, inR_of g1 (by omega), by omega, h2, g5, hl⟩
    have hs2 := strTo_sum (far := y.far) hr hs g5 h4 y.ss.length (Nat.le_refl _)
    rw [str_all hok (by rw [h1]; omega), strTo_len]
    exact .inr ⟨rfl, hs2.2, by rw [hs2.1, h1]; omega⟩
theorem want_bd {N : Nt} (hN : NetBd N) (hr : netOk N = (0, 0)) {a b : Int × Int} (ha : stepOk N.pcs.length a = true) (hb : stepOk N.pcs.length b = true) {j : Nat} {l : Int} (h : wantP N a b = some (j, l)) : j < N.jts.length ∧ 0 ≤ l ∧ l ≤ 40 := by
  obtain ⟨_, _, hj1, hk1, _⟩ := seat_look hr (stepOk_ends ha).1
  obtain ⟨_, _, hj2, hk2, _⟩ := seat_look hr (stepOk_ends hb).2
  have b1 := (hN.jends _ (List.getElem_mem hj1)).2
  have b2 := (hN.jends _ (List.getElem_mem hj2)).2
  unfold wantP at h
  rw [List.getElem?_eq_getElem hj1] at h
  dsimp only at h
  split at h
  · obtain ⟨rfl, rfl⟩ := Prod.mk.inj (Option.some.inj h)
    refine ⟨hj1, ?_⟩
    split <;> omega
  · cases h
theorem liesTo_bd {N : Nt} (hN : NetBd N) (hr : netOk N = (0, 0)) {ss : List (Int × Int)} (h : stepsP N ss = true) : ∀ (i : Nat) (out : List (Int × Int)), i < ss.length → liesTo N ss i = some out → ∀ p ∈ out, 0 ≤ p.1 ∧ p.1 < N.jts.length ∧ 0 ≤ p.2 ∧ p.2 ≤ 40
  | 0, out, _, ho => by
    obtain rfl := Option.some.inj ho
    intro p hp
    simp at hp
  | i + 1, out, hi, ho => by
    rw [liesTo] at ho
    split at ho
    · cases ho
    · rename_i o2 h2
      have ih := liesTo_bd hN hr h i o2 (by omega) h2
      split at ho
      · cases ho
      · rename_i j l hw
        have hb := want_bd hN hr (steps_at h (show i < ss.length by omega)) (steps_at h hi) hw
        unfold lieAdd at ho
        split at ho
        · obtain rfl := Option.some.inj ho; exact ih
        · split at ho
          · cases ho
          · split at ho
            · obtain rfl := Option.some.inj ho; exact ih
            · obtain rfl := Option.some.inj ho
              intro p hp
              rcases List.mem_append.1 hp with hp | hp
              · exact ih p hp
              · rw [List.mem_singleton.1 hp]
                exact ⟨by omega, by show (j : Int) < _; omega, hb.2.1, hb.2.2⟩
/-- The switches of a way on a drawn track. -/
theorem liesQ_bd {N : Nt} (hN : NetBd N) (hr : netOk N = (0, 0)) {ss : List (Int × Int)} (h : stepsP N ss = true) (h1 : 1 ≤ ss.length) : ∀ p ∈ (liesQ N ss).getD [], 0 ≤ p.1 ∧ p.1 < N.jts.length ∧ 0 ≤ p.2 ∧ p.2 ≤ 40 := by
  intro p hp
  unfold liesQ at hp
  rw [if_pos ⟨hr, h⟩] at hp
  cases hl : liesTo N ss (ss.length - 1) with
  | none => rw [hl] at hp; simp at hp
  | some out => rw [hl] at hp; exact liesTo_bd hN hr h _ out (by omega) hl p hp
end Go.Proofs.YtldafgbhjpfboaaGreat

namespace Go.Proofs.YtldafgbhjpfboaaGreat
open Go.RowKit
set_option maxHeartbeats 1000000

theorem specSpotOk_any (a a' : Option Addr) (N : Nt) (cap cap' : Nat) (q at' way : Int) (w : World) (hn : N.pcs.length ≤ 1048576) (hs : ∀ p ∈ N.pcs, p.name.size ≤ 1048576) (hl : N.jts.length ≤ 1048576) (hm : ∀ j ∈ N.jts, j.name.size ≤ 1048576 ∧ j.ends.length ≤ 1048576) (hp : PcsAt w a N.pcs) (hj : JtsAt w a' N.jts) :
    Calls Tryz.prog 24 #[.agg #[.slice a N.pcs.length cap, .slice a' N.jts.length cap'], .agg #[.int .i64 q, .int .i64 at', .int .i64 way]] w fun e w' =>
    e = .returned (.bool (spotOkP N q at' way)) ∧ Below w.heap.size w w' := by
  have HP := hide hp
  have HJ := hide hj
  have HM := hide hm
  have HS := hide hs
  clear hp hj hm hs
  go_enter Tryz.func24, Tryz.ntmps24
  go_wp2_with fail
  have hbW : Below w.heap.size w ((w.alloc (.cells #[.slice a N.pcs.length cap, .slice a' N.jts.length cap'] 26)).alloc (.cells #[.int .i64 q, .int .i64 at', .int .i64 way] 29)) := ((Below.refl _ _).alloc (Nat.le_refl _) _).alloc (by simp) _
  refine (l1ok_any a a' N cap cap' _ hn HS.out hl HM.out (HP.out.later hbW) (HJ.out.later hbW)).mono ?_
  rintro e w1 ⟨rfl, hb1⟩
  have hb2 := hbW.trans (hb1.mono hbW.size)
  obtain ⟨hc, hf⟩ := bcell hb1
  have n0 : w1.cell? ⟨w.heap.size, 0, none⟩ = some (.slice a N.pcs.length cap) := by rw [hc _ _ (by simp; omega)]; simp [go_sem]
  have n1 : w1.cell? ⟨w.heap.size, 1, none⟩ = some (.slice a' N.jts.length cap') := by rw [hc _ _ (by simp; omega)]; simp [go_sem]
  have e0 : w1.cell? ⟨w.heap.size + 1, 0, none⟩ = some (.int .i64 q) := by rw [hc _ _ (by simp)]; simp [go_sem]
  have e1 : w1.cell? ⟨w.heap.size + 1, 1, none⟩ = some (.int .i64 at') := by rw [hc _ _ (by simp)]; simp [go_sem]
  have e2 : w1.cell? ⟨w.heap.size + 1, 2, none⟩ = some (.int .i64 way) := by rw [hc _ _ (by simp)]; simp [go_sem]
  clear hc hf hb1
  cases hr : decide (netOk N = (0, 0))
  · have HR := hide hr
    clear hr
    go_wp2_with fail
    go_ret
    exact ⟨ret_b (by rw [spotOkP, HR.out]; rfl), hb2⟩
  · have HR := hide hr
    clear hr
    go_wp2_with fail
    refine (l3spot_any _ _ N _ _ _ _ _ _ hn (HP.out.later hb2)).mono ?_
    rintro e w2 ⟨rfl, hb3⟩
    have hb4 := hb2.trans (hb3.mono hb2.size)
    go_wp2_with fail
    go_ret
    exact ⟨ret_b (by rw [spotOkP, HR.out]; rfl), hb4⟩

end Go.Proofs.YtldafgbhjpfboaaGreat

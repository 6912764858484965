/- The laws' own helpers on lists of numbers. Own work. -/
import Derived.Test.YteapmddadieohaaMxAF
import Derived.Test.YteapmddadieohaaTo
import Derived.Test.YteapmddadieohaaDwN
namespace Go.Proofs.Yteapmddadieohaa
open Go.RowKit
set_option maxHeartbeats 2000000

theorem info_Int : (Try.prog.info? 3).map (fun i => (i.zero, i.size, i.bytes)) = some (some (.int .i64 0), 1, 8) := by kernel_rfl

end Go.Proofs.Yteapmddadieohaa

/- Nets, ASpot, Lies: what the laws draw; how great it is at most. Own work. -/
namespace Go.Proofs.Yteapmddadieohaa
open Go.RowKit
set_option maxHeartbeats 2000000

/-! ### How great a drawn track is -/
theorem pcsTo_all (code : List Int) (small : Int) (c0 : Cu) (i : Nat) : ∀ p ∈ (pcsTo code small c0 i).1, ∃ (k : Nat) (c : Cu), k < i ∧ p = pcDraw code small k c := by
  induction i with
  | zero => intro p hp; simp [pcsTo] at hp
  | succ i ih =>
    intro p hp
    simp only [pcsTo, List.mem_append, List.mem_singleton] at hp
    rcases hp with hp | hp
    · obtain ⟨k, c, h1, h2⟩ := ih p hp
      exact ⟨k, c, by omega, h2⟩
    · exact ⟨i, _, by omega, hp⟩
theorem jrun_all (code : List Int) (P : Jt → Prop) (hP : ∀ n es c, 0 < es.length → es.length ≤ 18 → n ≤ 18 → P (jtDraw code n es c)) : ∀ (f : Nat) (js : List Jt) (es : List (Int × Int)) (c : Cu), es.length ≤ 18 → js.length + es.length ≤ 18 → (∀ j ∈ js, P j) → (∀ j ∈ jrun code f js es c, P j) ∧ (jrun code f js es c).length ≤ 18
  | 0, js, es, c, _, h2, h => ⟨h, by simp [jrun]; omega⟩
  | f + 1, js, es, c, h1, h2, h => by
    rw [jrun]
    split
    · exact ⟨h, by omega⟩
    · rename_i h0
      have hk := jtKind_bd code es c (by omega)
      refine jrun_all code P hP f _ _ _ (by simp; omega) (by simp; omega) ?_
      intro j hj
      rcases List.mem_append.1 hj with hj | hj
      · exact h j hj
      · have : j = jtDraw code js.length es c := by simpa using hj
        rw [this]
        exact hP _ _ _ (by omega) h1 (by omega)
structure NetBd (N : Nt) : Prop where
  some : 1 ≤ N.pcs.length
  few : N.pcs.length ≤ 9
  names : ∀ p ∈ N.pcs, p.name.size ≤ 9
  lens : ∀ p ∈ N.pcs, 1 ≤ p.len ∧ p.len ≤ 300
  joints : N.jts.length ≤ 18
  jends : ∀ j ∈ N.jts, j.name.size ≤ 9 ∧ j.ends.length ≤ 18
theorem netP_bd (code : List Int) (c : Cu) : NetBd (netP code c) := by
  have hk := pickV_bd (code := code) (n := 9) (by omega) (pickC code 4 c)
  generalize hK : (1 + pickV code 9 (pickC code 4 c)).toNat = K
  have hK9 : 1 ≤ K ∧ K ≤ 9 := by omega
  have hpcs : (netP code c).pcs = (pcsTo code (pickV code 4 c) (pickC code 9 (pickC code 4 c)) K).1 := by unfold netP; simp only [hK]
  have hjts : (netP code c).jts = jrun code (2 * K) [] (shuf code (2 * K - 1) (endsTo K) (pcsTo code (pickV code 4 c) (pickC code 9 (pickC code 4 c)) K).2).1 (shuf code (2 * K - 1) (endsTo K) (pcsTo code (pickV code 4 c) (pickC code 9 (pickC code 4 c)) K).2).2 := by unfold netP; simp only [hK]
  have hall := pcsTo_all code (pickV code 4 c) (pickC code 9 (pickC code 4 c)) K
  have hes : (shuf code (2 * K - 1) (endsTo K) (pcsTo code (pickV code 4 c) (pickC code 9 (pickC code 4 c)) K).2).1.length = 2 * K := by rw [shuf_len, endsTo_len]
  have hj := jrun_all code (fun j => j.name.size ≤ 9 ∧ j.ends.length ≤ 18) (fun n es c h0 h1 h2 => by
    unfold jtDraw
    refine ⟨?_, ?_⟩
    · dsimp only
      split
      · exact nameP_size (by omega)
      · decide
    · simp; omega) (2 * K) [] _ (shuf code (2 * K - 1) (endsTo K) (pcsTo code (pickV code 4 c) (pickC code 9 (pickC code 4 c)) K).2).2 (by rw [hes]; omega) (by rw [hes]; simp; omega) (fun j hj => by simp at hj)
  refine ⟨?_, ?_, ?_, ?_, ?_, ?_⟩
  · rw [hpcs, pcsTo_len]; omega
  · rw [hpcs, pcsTo_len]; omega
  · intro p hp
    rw [hpcs] at hp
    obtain ⟨k, c', h1, rfl⟩ := hall p hp
    exact nameP_size (by omega)
  · intro p hp
    rw [hpcs] at hp
    obtain ⟨k, c', h1, rfl⟩ := hall p hp
    exact pcLen_bd _ _ _
  · rw [hjts]; exact hj.2
  · intro j hj'
    rw [hjts] at hj'
    exact hj.1 j hj'
theorem NetBd.len_at {N : Nt} (h : NetBd N) {k : Nat} (hk : k < N.pcs.length) : 1 ≤ lenAt N k ∧ lenAt N k ≤ 300 := by
  rw [lenAt_nat N k hk]
  exact h.lens _ (List.getElem_mem hk)

/-! ### Nets -/
def netOfCode (code : List Int) : Nt := netP code ⟨0, 0⟩
def NetsPost (code : List Int) (w : World) (e : Ending) (w' : World) : Prop :=
  ∃ (pa ja : Option Addr) (pcap jcap : Nat), e = .returned (.agg #[.slice pa (netOfCode code).pcs.length pcap, .slice ja (netOfCode code).jts.length jcap]) ∧ PcsAt w' pa (netOfCode code).pcs ∧ JtsAt w' ja (netOfCode code).jts ∧ Below w.heap.size w w'

theorem cur_new {w : World} {a : Option Addr} {n cap : Nat} : CurAt (w.alloc (.cells #[.slice a n cap, .int .i64 0, .int .u64 0] 48)) w.heap.size a n cap ⟨0, 0⟩ :=
  ⟨new_cell w _ _ 0 _ rfl, new_cell w _ _ 1 _ rfl, new_cell w _ _ 2 _ rfl, by simp [go_sem], by simp [go_sem]⟩
theorem off_of {w : World} {a : Option Addr} {code : List Int} {B : Nat} (h : BytesAt w a code) (hB : w.heap.size ≤ B) : OffB a code.length B := by
  intro b off ha
  by_cases h0 : code.length = 0
  · exact .inl h0
  · obtain ⟨b', off', ha', hc⟩ := h 0 (by omega)
    rw [ha] at ha'
    obtain ⟨rfl, rfl⟩ : b = b' ∧ off = off' := by simpa using ha'
    exact .inr (Nat.lt_of_lt_of_le (cell_lt hc) hB)

theorem nets_any (a : Option Addr) (cap : Nat) (code : List Int) (w : World) (hB : Bys code) (hn : code.length ≤ 1048576) (hx : BytesAt w a code) :
    Calls Try.prog 6 #[.slice a code.length cap] w fun e w' => NetsPost code w e w' := by
  have HB := hide hB
  have HX := hide hx
  have hbA : Below w.heap.size w ((w.alloc (.cells #[.slice none 0 0, .slice none 0 0] 26)).alloc (.cells #[.slice a code.length cap, .int .i64 0, .int .u64 0] 48)) := ((Below.refl _ _).alloc (Nat.le_refl _) _).alloc (by simp) _
  have HCA : Hid (CurAt ((w.alloc (.cells #[.slice none 0 0, .slice none 0 0] 26)).alloc (.cells #[.slice a code.length cap, .int .i64 0, .int .u64 0] 48)) (w.heap.size + 1) a code.length cap ⟨0, 0⟩) := by
    have := cur_new (w := w.alloc (.cells #[.slice none 0 0, .slice none 0 0] 26)) (a := a) (n := code.length) (cap := cap)
    rw [World.size_alloc] at this
    exact this
  have HO := hide (off_of hx (B := w.heap.size + 1) (by omega))
  have r0 : ((w.alloc (.cells #[.slice none 0 0, .slice none 0 0] 26)).alloc (.cells #[.slice a code.length cap, .int .i64 0, .int .u64 0] 48)).cell? ⟨w.heap.size, 0, none⟩ = some (.slice none 0 0) := by simp [go_sem]
  have r1 : ((w.alloc (.cells #[.slice none 0 0, .slice none 0 0] 26)).alloc (.cells #[.slice a code.length cap, .int .i64 0, .int .u64 0] 48)).cell? ⟨w.heap.size, 1, none⟩ = some (.slice none 0 0) := by simp [go_sem]
  have rf0 : ((w.alloc (.cells #[.slice none 0 0, .slice none 0 0] 26)).alloc (.cells #[.slice a code.length cap, .int .i64 0, .int .u64 0] 48)).frozen? ⟨w.heap.size, 0, none⟩ = false := by simp [go_sem]
  have rf1 : ((w.alloc (.cells #[.slice none 0 0, .slice none 0 0] 26)).alloc (.cells #[.slice a code.length cap, .int .i64 0, .int .u64 0] 48)).frozen? ⟨w.heap.size, 1, none⟩ = false := by simp [go_sem]
  have hzA : ((w.alloc (.cells #[.slice none 0 0, .slice none 0 0] 26)).alloc (.cells #[.slice a code.length cap, .int .i64 0, .int .u64 0] 48)).heap.size = w.heap.size + 2 := by simp
  clear hB hx
  go_enter Try.func6, Try.ntmps6
  go_wp2_with fail
  generalize ((w.alloc (.cells #[.slice none 0 0, .slice none 0 0] 26)).alloc (.cells #[.slice a code.length cap, .int .i64 0, .int .u64 0] 48)) = w1 at *
  refine (net_any (w.heap.size + 1) a cap code ⟨0, 0⟩ _ HB.out (Nat.zero_le _) hn HO.out HCA.out (HX.out.later hbA)).mono ?_
  rintro e w2 ⟨pa, ja, pcap, jcap, rfl, hIN, hm⟩
  have rf0 := hm.frozen (.inl (by omega)) r0 rf0
  have rf1 := hm.frozen (.inl (by omega)) r1 rf1
  have r0 := hm.cell (.inl (by omega)) r0
  have r1 := hm.cell (.inl (by omega)) r1
  have HIN := hide hIN
  have hb2 : Below w.heap.size w w2 := hbA.trans ((hm.below (by omega)).mono (by omega))
  have hz2 := hm.size
  clear hIN hm HCA HX HO
  go_wp2_with fail
  refine bodyPost_ret (v := .agg #[.slice pa (netP code ⟨0, 0⟩).pcs.length pcap, .slice ja (netP code ⟨0, 0⟩).jts.length jcap]) (by simp [results, Try.results6, go_sem, r0, r1]) rfl ?_
  have hle : w.heap.size ≤ w.heap.size := Nat.le_refl _
  obtain ⟨h1, h2⟩ := HIN.out ((w2.setCell ⟨w.heap.size, 0, none⟩ (.slice pa (netP code ⟨0, 0⟩).pcs.length pcap)).setCell ⟨w.heap.size, 1, none⟩ (.slice ja (netP code ⟨0, 0⟩).jts.length jcap)) (fun k hk _ => (Below.heap_setCell _ _ _ _ (by show k ≠ w.heap.size; omega)).trans (Below.heap_setCell _ _ _ _ (by show k ≠ w.heap.size; omega)))
  exact ⟨pa, ja, pcap, jcap, rfl, h1, h2, (hb2.setCell hle _).setCell hle _⟩
end Go.Proofs.Yteapmddadieohaa

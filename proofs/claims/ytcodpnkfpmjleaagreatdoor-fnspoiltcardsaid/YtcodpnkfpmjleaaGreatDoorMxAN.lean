/- A drawn track is right: plain. Own work. -/
import Derived.Test.YtcodpnkfpmjleaaGreatDoorMxAI
import Derived.Test.YtcodpnkfpmjleaaGreatDoorMxAA
import Derived.Test.YtcodpnkfpmjleaaGreatDoorMxAB
import Derived.Deep.Light
import Derived.Maps.OwnSet
import Derived.Maps.Views
import Derived.DeepKeys4
import Derived.Lib.SmallJoins
import Derived.Test.YtcodpnkfpmjleaaGreatDoorTo
import Derived.Deep.RegionWith
import Derived.Deep.QuietTactic
import Derived.BigQuiet
namespace Go.Proofs.YtcodpnkfpmjleaaGreatDoor
set_option maxHeartbeats 1000000

/-! ### Names -/
theorem nameP_nm : ∀ i : Fin 9, nm (nameP (i.val : Int)) = true := by decide +kernel
theorem nameP_nm1 : ∀ i : Fin 18, nm (nameP (100 + (i.val : Int))) = true := by decide +kernel
theorem nameP_ne : ∀ i k : Fin 9, i ≠ k → ((nameP (i.val : Int)).toList == (nameP (k.val : Int)).toList) = false := by decide +kernel
theorem nameP_ne1 : ∀ i k : Fin 18, i ≠ k → ((nameP (100 + (i.val : Int))).toList == (nameP (100 + (k.val : Int))).toList) = false := by decide +kernel
theorem nameP_some : ∀ k : Fin 18, ((⟨#[]⟩ : ByteArray).toList == (nameP (100 + (k.val : Int))).toList) = false := by decide +kernel
theorem name_empty : ((⟨#[]⟩ : ByteArray).toList).isEmpty = true := by decide +kernel

theorem inR_of {x a b : Int} (h1 : a ≤ x) (h2 : x ≤ b) : inR x a b = true := by simp [inR, h1, h2]

/-! ### Pieces -/
theorem pcs_get (code : List Int) (small : Int) (c0 : Cu) : ∀ (i k : Nat) (hk : k < (pcsTo code small c0 i).1.length), ∃ c, (pcsTo code small c0 i).1[k] = pcDraw code small k c
  | 0, k, hk => by simp [pcsTo] at hk
  | i + 1, k, hk => by
    have hl := pcsTo_len code small c0 i
    have hl1 := pcsTo_len code small c0 (i + 1)
    by_cases h : k < i
    · obtain ⟨c, hc⟩ := pcs_get code small c0 i k (by omega)
      refine ⟨c, ?_⟩
      rw [← hc]
      simp only [pcsTo]
      exact List.getElem_append_left (by omega)
    · have e : k = i := by omega
      refine ⟨(pcsTo code small c0 i).2, ?_⟩
      simp only [pcsTo]
      rw [List.getElem_append_right (by omega)]
      simp [e]

/-! ### Ends -/
theorem count_swap (es : List (Int × Int)) (i k : Nat) (hi : i < es.length) (hk : k < es.length) (b : Int × Int) : (swapAt es i k).count b = es.count b := by
  unfold swapAt
  have e1 : es[i]! = es[i] := by simp [hi]
  have e2 : es[k]! = es[k] := by simp [hk]
  rw [e1, e2, List.count_set (by simpa using hk), List.count_set hi]
  have e3 : (es.set i es[k])[k]'(by simpa using hk) = es[k] := by
    rw [List.getElem_set]
    split <;> rfl
  rw [e3]
  by_cases h1 : es[i] = b
  · have : 0 < es.count b := List.count_pos_iff.2 (h1 ▸ List.getElem_mem hi)
    by_cases h2 : es[k] = b
    · simp [h1, h2]; omega
    · simp [h1, h2]; omega
  · by_cases h2 : es[k] = b
    · simp [h1, h2]
    · simp [h1, h2]
theorem count_shuf (code : List Int) (b : Int × Int) : ∀ (i : Nat) (es : List (Int × Int)) (c : Cu), (i = 0 ∨ i < es.length) → (shuf code i es c).1.count b = es.count b
  | 0, es, c, _ => rfl
  | i + 1, es, c, h => by
    have hi : i + 1 < es.length := by omega
    have hb := shufI_bd code (i + 1) c
    rw [shuf, count_shuf code b i _ _ (by rw [swapAt_len]; omega), count_swap _ _ _ hi (by omega)]
theorem mem_endsTo {e : Int × Int} : ∀ {i : Nat}, e ∈ endsTo i → 0 ≤ e.1 ∧ e.1 < i ∧ (e.2 = 0 ∨ e.2 = 1)
  | 0, h => by simp [endsTo] at h
  | i + 1, h => by
    simp only [endsTo, List.mem_append, List.mem_cons, List.not_mem_nil, or_false] at h
    rcases h with h | rfl | rfl
    · have := mem_endsTo h; omega
    · simp; omega
    · simp; omega
theorem count_endsTo (s : Int) (hs : s = 0 ∨ s = 1) (k : Nat) : ∀ i : Nat, (endsTo i).count ((k : Int), s) = if k < i then 1 else 0
  | 0 => by simp [endsTo]
  | i + 1 => by
    rw [endsTo, List.count_append, count_endsTo s hs k i]
    by_cases h : k = i
    · subst h
      rcases hs with rfl | rfl <;> simp
    · rcases hs with rfl | rfl <;> simp [List.count_cons] <;> (repeat' split) <;> omega

/-! ### Joints -/
theorem jrun_get (code : List Int) (P : Int × Int → Prop) : ∀ (f : Nat) (js : List Jt) (es : List (Int × Int)) (c : Cu), (∀ e ∈ es, P e) → (∀ k (hk : k < js.length), ∃ es' c', 0 < es'.length ∧ (∀ e ∈ es', P e) ∧ js[k] = jtDraw code k es' c') →
    ∀ k (hk : k < (jrun code f js es c).length), ∃ es' c', 0 < es'.length ∧ (∀ e ∈ es', P e) ∧ (jrun code f js es c)[k] = jtDraw code k es' c'
  | 0, js, es, c, _, h => h
  | f + 1, js, es, c, he, h => by
    intro k hk
    by_cases h0 : es.length = 0
    · have e : jrun code (f + 1) js es c = js := by rw [jrun, if_pos h0]
      obtain ⟨es', c', h1, h2, h3⟩ := h k (by rw [e] at hk; exact hk)
      exact ⟨es', c', h1, h2, by rw [← h3]; simp only [e]⟩
    · have e : jrun code (f + 1) js es c = jrun code f (js ++ [jtDraw code js.length es c]) (es.drop (jtKind code es c).toNat) (pickC code 7 c) := by rw [jrun, if_neg h0]
      obtain ⟨es', c', h1, h2, h3⟩ := jrun_get code P f (js ++ [jtDraw code js.length es c]) (es.drop (jtKind code es c).toNat) (pickC code 7 c) (fun x hx => he x (List.mem_of_mem_drop hx)) (fun m hm => by
        by_cases hm' : m < js.length
        · obtain ⟨es', c', h1, h2, h3⟩ := h m hm'
          exact ⟨es', c', h1, h2, by rw [← h3]; exact List.getElem_append_left hm'⟩
        · have : m = js.length := by simp at hm; omega
          subst this
          exact ⟨es, c, by omega, he, by simp⟩) k (by rw [e] at hk; exact hk)
      exact ⟨es', c', h1, h2, by rw [← h3]; simp only [e]⟩
theorem jrun_ends (code : List Int) : ∀ (f : Nat) (js : List Jt) (es : List (Int × Int)) (c : Cu), es.length ≤ f → allEnds (jrun code f js es c) = allEnds js ++ es
  | 0, js, es, c, h => by
    have : es = [] := List.length_eq_zero_iff.1 (by omega)
    simp [jrun, this]
  | f + 1, js, es, c, h => by
    rw [jrun]
    split
    · rename_i h0
      simp [List.length_eq_zero_iff.1 h0]
    · rename_i h0
      have := jtKind_bd code es c (by omega)
      rw [jrun_ends code f _ _ _ (by simp; omega)]
      have e : allEnds (js ++ [jtDraw code js.length es c]) = allEnds js ++ es.take (jtKind code es c).toNat := by simp [allEnds, jtDraw]
      rw [e, List.append_assoc, List.take_append_drop]
theorem jrun_len (code : List Int) : ∀ (f : Nat) (js : List Jt) (es : List (Int × Int)) (c : Cu), (jrun code f js es c).length ≤ js.length + es.length
  | 0, js, es, c => by simp [jrun]
  | f + 1, js, es, c => by
    rw [jrun]
    split
    · omega
    · have := jtKind_bd code es c (by omega)
      have := jrun_len code f (js ++ [jtDraw code js.length es c]) (es.drop (jtKind code es c).toNat) (pickC code 7 c)
      simp at this
      omega

/-- A drawn track is right. -/
theorem netP_right (code : List Int) (c : Cu) : netOk (netP code c) = (0, 0) := by
  have hk := pickV_bd (code := code) (n := 9) (by omega) (pickC code 4 c)
  generalize hK : (1 + pickV code 9 (pickC code 4 c)).toNat = K
  have hK9 : 1 ≤ K ∧ K ≤ 9 := by omega
  have hpcs : (netP code c).pcs = (pcsTo code (pickV code 4 c) (pickC code 9 (pickC code 4 c)) K).1 := by unfold netP; simp only [hK]
  have hjts : (netP code c).jts = jrun code (2 * K) [] (shuf code (2 * K - 1) (endsTo K) (pcsTo code (pickV code 4 c) (pickC code 9 (pickC code 4 c)) K).2).1 (shuf code (2 * K - 1) (endsTo K) (pcsTo code (pickV code 4 c) (pickC code 9 (pickC code 4 c)) K).2).2 := by unfold netP; simp only [hK]
  have hpl := pcsTo_len code (pickV code 4 c) (pickC code 9 (pickC code 4 c)) K
  have hpg := pcs_get code (pickV code 4 c) (pickC code 9 (pickC code 4 c)) K
  have hcs := fun b => count_shuf code b (2 * K - 1) (endsTo K) (pcsTo code (pickV code 4 c) (pickC code 9 (pickC code 4 c)) K).2 (by rw [endsTo_len]; omega)
  have hsl := shuf_len code (2 * K - 1) (endsTo K) (pcsTo code (pickV code 4 c) (pickC code 9 (pickC code 4 c)) K).2
  rw [endsTo_len] at hsl
  generalize hS : shuf code (2 * K - 1) (endsTo K) (pcsTo code (pickV code 4 c) (pickC code 9 (pickC code 4 c)) K).2 = S at *
  have hmem : ∀ e ∈ S.1, 0 ≤ e.1 ∧ e.1 < K ∧ (e.2 = 0 ∨ e.2 = 1) := fun e he => by
    have h1 : 0 < S.1.count e := List.count_pos_iff.2 he
    rw [hcs e] at h1
    exact mem_endsTo (List.count_pos_iff.1 h1)
  have hjg := jrun_get code (fun e => 0 ≤ e.1 ∧ e.1 < K ∧ (e.2 = 0 ∨ e.2 = 1)) (2 * K) [] S.1 S.2 hmem (fun k hk => by simp at hk)
  have hje := jrun_ends code (2 * K) [] S.1 S.2 (by omega)
  have hjl := jrun_len code (2 * K) [] S.1 S.2
  rw [← hpcs] at hpl hpg
  rw [← hjts] at hjg hje hjl
  simp only [List.length_nil, Nat.zero_add] at hjl
  generalize netP code c = N at *
  clear hpcs hjts hS
  refine netOk_0 ?_ ?_ ?_ ?_ ?_
  · simp only [sizeBad, Bool.or_eq_false_iff, decide_eq_false_iff_not]; omega
  · intro j hj
    rw [pcBad_eq hj]
    obtain ⟨d, hd⟩ := hpg j hj
    have hn := nameP_nm ⟨j, by omega⟩
    have ho : N.pcs[j].ok = true := by
      rw [hd]
      have b2 := pickV_bd (code := code) (n := 200) (by omega) (pcC2 code (pickV code 4 c) d)
      have b3 := pickV_bd (code := code) (n := 90) (by omega) (pickC code 200 (pcC2 code (pickV code 4 c) d))
      have b1 : 1 ≤ pcLen code (pickV code 4 c) d ∧ pcLen code (pickV code 4 c) d ≤ 300 := by
        unfold pcLen
        have p1 := pickV_bd (code := code) (n := 4) (by omega) (wideC code d)
        have p2 := wideV_bd (code := code) (n := 300) (by omega) d
        split <;> omega
      show (nm (nameP (j : Int)) && inR (pcLen code (pickV code 4 c) d) 1 10000000 && inR (1 + pickV code 200 (pcC2 code (pickV code 4 c) d)) 1 10000 && inR (1 + pickV code 90 (pickC code 200 (pcC2 code (pickV code 4 c) d))) 1 1000) = true
      rw [hn, inR_of b1.1 (by omega), inR_of (by omega) (by omega), inR_of (by omega) (by omega)]
      rfl
    rw [ho, any_take_false (fun u hu hl => ?_)]
    · rfl
    · obtain ⟨d', hd'⟩ := hpg u hl
      rw [hd, hd']
      exact nameP_ne ⟨u, by omega⟩ ⟨j, by omega⟩ (by intro e; injection e; omega)
  · intro j hj
    rw [jtBad3_eq hj]
    obtain ⟨es, d, h1, h2, h3⟩ := hjg j hj
    have hb := jtKind_bd code es d h1
    rw [h3]
    have e1 : inR (jtDraw code j es d).kind 1 4 = true := inR_of hb.1 hb.2.1
    have e2 : ((jtDraw code j es d).ends.length : Int) = (jtDraw code j es d).kind := by
      simp only [jtDraw, List.length_take]; omega
    rw [e1, e2, any_false' (fun u hl => ?_)]
    · simp
    · have := h2 _ (List.mem_of_mem_take (List.getElem_mem hl))
      unfold endOk
      rw [inR_of (by omega) (by omega), inR_of (by omega) (by omega)]
      rfl
  · intro j hj
    rw [jtBad4_eq hj]
    obtain ⟨es, d, h1, h2, h3⟩ := hjg j hj
    rw [h3]
    split
    · rename_i hk3
      have : (jtDraw code j es d).name = ⟨#[]⟩ := by
        simp only [jtDraw] at hk3 ⊢
        rw [if_neg (by omega)]
      rw [this, name_empty]; rfl
    · rename_i hk3
      have hnm : (jtDraw code j es d).name = nameP (100 + (j : Int)) := by
        simp only [jtDraw] at hk3 ⊢
        rw [if_pos (by omega)]
      rw [hnm, nameP_nm1 ⟨j, by omega⟩, any_take_false (fun u hu hl => ?_)]
      · rfl
      · obtain ⟨es', d', _, _, h3'⟩ := hjg u hl
        rw [h3']
        simp only [jtDraw]
        split
        · exact nameP_ne1 ⟨u, by omega⟩ ⟨j, by omega⟩ (by intro e; injection e; omega)
        · exact nameP_some ⟨j, by omega⟩
  · intro j hj
    have hu : ∀ s, (s = 0 ∨ s = 1) → uses N.jts ((j : Int), s) = 1 := fun s hs => by
      unfold uses
      rw [hje]
      simp only [allEnds, List.flatMap_nil, List.nil_append]
      rw [hcs, count_endsTo s hs j K, if_pos (by omega)]
    exact pcBad5_false (hu 0 (.inl rfl)) (hu 1 (.inr rfl))
end Go.Proofs.YtcodpnkfpmjleaaGreatDoor

namespace Go.Proofs.YtcodpnkfpmjleaaGreatDoor
open Go.RowKit
set_option maxHeartbeats 400000

theorem inRange_any (x a b : Int) (w : World) : Calls Tryz.prog 48 #[.int .i64 x, .int .i64 a, .int .i64 b] w fun e w' =>
    e = .returned (.bool (inR x a b)) ∧ w = w' := by
  by_cases h : a ≤ x
  all_goals
    go_enter Tryz.func48, Tryz.ntmps48
    go_wp2
    go_ret
    exact ⟨ret_b (by simp [inR]; try omega), rfl⟩

theorem nameByte_any (c : UInt8) (w : World) : Calls Tryz.prog 135 #[.int .u8 (c.toNat : Int)] w fun e w' =>
    e = .returned (.bool (byteOk c)) ∧ w = w' := by
  unfold byteOk
  generalize (c.toNat : Int) = x
  go_enter Tryz.func135, Tryz.ntmps135
  go_wp2
  all_goals go_ret
  all_goals refine ⟨ret_b ?_, rfl⟩
  all_goals go_light
  all_goals first | rfl | (rw [Bool.eq_iff_iff]; simp; omega)

theorem nameOk_any (s : ByteArray) (w : World) (hs : s.size ≤ 1048576) : Calls Tryz.prog 107 #[.string s] w fun e w' =>
    e = .returned (.bool (nm s)) ∧ w = w' := by
  by_cases hr : inR (s.size : Int) 1 20 = true
  · have h1 : 1 ≤ s.size ∧ s.size ≤ 20 := by simp [inR] at hr; omega
    go_enter Tryz.func107, Tryz.ntmps107
    go_wp2_with fail
    refine (inRange_any _ _ _ _).mono ?_
    rintro e w' ⟨rfl, rfl⟩
    rw [hr]
    go_wp2_with fail
    go_loop [10] (fun i => ∃ k : Nat, k ≤ s.size ∧ i = .int .i64 k ∧ (∀ j (hj : j < s.size), j < k → byteOk s[j] = true)) (fun i => s.size - (intOf i).toNat)
    case atStart => exact ⟨0, Nat.zero_le _, rfl, by omega⟩
    case round =>
      obtain ⟨k, hk, rfl, hall⟩ := hrel
      have HA := hide hall
      clear hall
      by_cases hlt : k < s.size
      · cases hc : byteOk s[k]
        · have HB := hide (nm_bad s k hlt hc)
          have HC := hide hc
          clear hc
          go_wp2_with fail
          refine (nameByte_any s[k] _).mono ?_
          rintro e w1 ⟨rfl, rfl⟩
          rw [HC.out]
          go_wp2_with fail
          go_ret
          exact ⟨ret_b HB.out.symm, rfl⟩
        · have HC := hide hc
          clear hc
          go_wp2_with fail
          refine (nameByte_any s[k] _).mono ?_
          rintro e w1 ⟨rfl, rfl⟩
          rw [HC.out]
          go_wp2_with fail
          refine ⟨⟨k + 1, by omega, by go_num, ?_⟩, by simp [intOf]; omega⟩
          intro j hj hjk
          by_cases e : j = k
          · subst e; exact HC.out
          · exact HA.out j hj (by omega)
      · have HN := hide (nm_all s (fun j hj => HA.out j hj (by omega)))
        go_wp2_with fail
        go_ret
        exact ⟨ret_b (by rw [HN.out]; simp; omega), rfl⟩
  · have hr' : inR (s.size : Int) 1 20 = false := by simpa using hr
    have hf : nm s = false := by simp [inR] at hr'; simp [nm]; omega
    have HF := hide hf
    clear hf hr
    go_enter Tryz.func107, Tryz.ntmps107
    go_wp2_with fail
    refine (inRange_any _ _ _ _).mono ?_
    rintro e w' ⟨rfl, rfl⟩
    rw [hr']
    go_wp2_with fail
    go_ret
    exact ⟨ret_b HF.out.symm, rfl⟩
end Go.Proofs.YtcodpnkfpmjleaaGreatDoor

namespace Go.Proofs.YtcodpnkfpmjleaaGreatDoor
open Go.RowKit Go.Maps Go.Joins

theorem lawS : Keyed Tryz.prog 9 := string_keyed Tryz.underlying9
theorem zeroI (w : World) : (zeroValue 3).run Tryz.prog w = .ok (.int .i64 0) w := by kernel_rfl

def seenI (seen : List (List UInt8)) (t : List UInt8) : Int := if seen.contains t then 1 else 0

/-- Block b is a map that holds 1 at each of the seen names, and nothing else. -/
def SI (w : World) (b n : Nat) (seen : List (List UInt8)) : Prop :=
  ∃ D : DataW Unit, w.ownsMap Tryz.prog 9 (plainElem Tryz.prog 3) b n D ∧ ∀ s : List UInt8, D.atKey (.string s) (.lit (.int .i64 0)) = .lit (.int .i64 (seenI seen s))

theorem SI.made (w : World) : SI (w.alloc (.map #[] 0)) w.heap.size 0 [] :=
  ⟨_, World.ownsMap_made w _ _ _, fun _ => rfl⟩

theorem SI.of_block {w w' : World} {b n seen} (h : SI w b n seen) (e : w'.heap[b]? = w.heap[b]?) : SI w' b n seen := by
  obtain ⟨D, ⟨es, clock, hb, h2⟩, h3⟩ := h
  exact ⟨D, ⟨es, clock, e.trans hb, h2⟩, h3⟩

theorem SI.lt {w : World} {b n seen} (h : SI w b n seen) : b < w.heap.size := by
  obtain ⟨D, h, _⟩ := h
  exact h.lt

theorem SI.look {w : World} {b n seen} (h : SI w b n seen) (s : ByteArray) (hs : s.size ≤ maxLen) :
    (Instr.lookup 126 (.map (some b)) (.string s) false).run Tryz.prog w = .ok (.int .i64 (seenI seen s.data.toList)) w := by
  obtain ⟨D, hown, hD⟩ := h
  obtain ⟨c, hrun, hat, _⟩ := hown.lookup_int lawS Tryz.underlying126 Tryz.underlying3 (zeroI _) (WideMaps.keyOf_string_mk Tryz.underlying9 hs)
  rw [hD] at hat
  simp at hat
  rw [hrun, hat]

theorem SI.put {w : World} {b n seen} (h : SI w b n seen) (hn : n < maxLen) (s : ByteArray) (hs : s.size ≤ maxLen) :
    ∃ w', (Instr.mapUpdate 126 (.map (some b)) (.string s) (.int .i64 1)).run Tryz.prog w = .ok () w' ∧ SI w' b (n + 1) (seen ++ [s.data.toList]) ∧ w.grownBy w' (some b) := by
  obtain ⟨D, hown, hD⟩ := h
  obtain ⟨w', hrun, hown', hg⟩ := hown.update lawS Tryz.underlying126 hn (WideMaps.keyOf_string_mk Tryz.underlying9 hs) (plainElem_int Tryz.underlying3 (a := 1) (by decide))
  refine ⟨w', hrun, ⟨_, hown', fun t => ?_⟩, hg⟩
  by_cases e : t = s.data.toList
  · subst e
    rw [atKey_put_same hown.isMap (show WideAt.IsKeyLit (.string _) from trivial)]
    simp [seenI]
  · rw [atKey_put_other (by simpa using e), hD]
    simp [seenI, e]

theorem rowE : (75 : TypeId) < Tryz.prog.types.size := of_decide_eq_true (by kernel_rfl)
theorem wideE : (match Tryz.prog.underlying 75 with | some (.array _ _) | some (.struct _) => true | _ => false) = true := by rw [Tryz.underlying75]
theorem deepE : Tryz.prog.keyTypeAt (Tryz.prog.types.size + 1) 75 = true := by kernel_rfl
theorem cellsE : Tryz.prog.cellsOf 75 = 2 := by kernel_rfl
set_option maxRecDepth 100000 in
theorem klawE : WideMaps.KeyLaw Tryz.prog 75 := deep_law_laid Tryz.laidOut (m := 2) (by omega) rowE (by kernel_rfl) wideE
theorem lawE : Keyed Tryz.prog 75 := Keyed.of_law klawE
theorem formedE {c0 c1 : Value} : (Value.agg #[c0, c1]).formed Tryz.prog 75 = true := by simp [Value.formed, Tryz.underlying75, cellsE]

set_option maxRecDepth 100000 in
theorem keyE (w : World) (x y : Int) (hx : (Lit.int .i64 x).wf = true) (hy : (Lit.int .i64 y).wf = true) : ∃ kl, keyOf Tryz.prog 75 (.agg #[.int .i64 x, .int .i64 y]) = some kl := by
  have h : DataW.Trod (H := Unit) (fun _ => ()) Tryz.prog w 0 (fun _ => true) true 75 (.agg #[.int .i64 x, .int .i64 y]) (.agg [.lit (.int .i64 x), .lit (.int .i64 y)]) ([] ++ []) :=
    shut_agg2 (y0 := (.lit (.int .i64 x), [])) (y1 := (.lit (.int .i64 y), [])) Tryz.underlying75 (by kernel_rfl) cellsE ⟨1, by simp [DataW.trod, Tryz.underlying3, hx]⟩ ⟨1, by simp [DataW.trod, Tryz.underlying3, hy]⟩
  exact ⟨_, (keyOf_asKey deepE wideE formedE h).1⟩

def seatR (v : Value) : Option (DataW Unit × List MemPlace) :=
  match v with
  | .agg xs => match xs.toList with
    | [.int .i64 a, .int .i64 b, .int .i64 c] => some (.agg [.lit (.int .i64 a), .lit (.int .i64 b), .lit (.int .i64 c)], [])
    | _ => none
  | _ => none

def seatD (t : Int × Int × Int) : DataW Unit := .agg [.lit (.int .i64 t.1), .lit (.int .i64 t.2.1), .lit (.int .i64 t.2.2)]
def seatV (t : Int × Int × Int) : Value := .agg #[.int .i64 t.1, .int .i64 t.2.1, .int .i64 t.2.2]

theorem seatR_mk (t : Int × Int × Int) : seatR (seatV t) = some (seatD t, []) := rfl

theorem seatR_inv {v : Value} {t : Int × Int × Int} {ps} (h : seatR v = some (seatD t, ps)) : v = seatV t := by
  unfold seatR at h
  split at h
  · rename_i xs
    split at h
    · rename_i a b c heq
      simp [seatD] at h
      obtain ⟨⟨rfl, h2, h3⟩, _⟩ := h
      subst h2; subst h3
      have : xs = #[.int .i64 t.1, .int .i64 t.2.1, .int .i64 t.2.2] := by
        apply Array.toList_inj.1; rw [heq]
      rw [this]; rfl
    · cases h
  · cases h

theorem zeroS (w : World) : (zeroValue 161).run Tryz.prog w = .ok (seatV (0, 0, 0)) w := by kernel_rfl


/-- Block b is a map from ends to seats that holds g. -/
def SE (w : World) (b n : Nat) (g : Int × Int → Option (Int × Int × Int)) : Prop :=
  ∃ D : DataW Unit, w.ownsMap Tryz.prog 75 seatR b n D ∧ ∀ (e : Int × Int) (kl : Lit), keyOf Tryz.prog 75 (.agg #[.int .i64 e.1, .int .i64 e.2]) = some kl → D.atKey kl (seatD (0, 0, 0)) = seatD ((g e).getD (0, 0, 0)) ∧ Maps.has D kl = (g e).isSome

theorem SE.made (w : World) : SE (w.alloc (.map #[] 0)) w.heap.size 0 (fun _ => none) :=
  ⟨_, World.ownsMap_made w _ _ _, fun _ _ _ => ⟨rfl, rfl⟩⟩

theorem SE.of_block {w w' : World} {b n g} (h : SE w b n g) (e : w'.heap[b]? = w.heap[b]?) : SE w' b n g := by
  obtain ⟨D, ⟨es, clock, hb, h2⟩, h3⟩ := h
  exact ⟨D, ⟨es, clock, e.trans hb, h2⟩, h3⟩

theorem SE.lt {w : World} {b n g} (h : SE w b n g) : b < w.heap.size := by
  obtain ⟨D, h, _⟩ := h
  exact h.lt

theorem SE.look {w : World} {b n g} (h : SE w b n g) (x y : Int) (hw : Wf2 (x, y)) :
    (Instr.lookup 104 (.map (some b)) (.agg #[.int .i64 x, .int .i64 y]) false).run Tryz.prog w = .ok (seatV ((g (x, y)).getD (0, 0, 0))) w := by
  obtain ⟨D, hown, hD⟩ := h
  obtain ⟨kl, hkl⟩ := keyE w x y hw.1 hw.2
  obtain ⟨v, ps, hrun, hv⟩ := hown.lookup lawE Tryz.underlying104 (zeroS w) (seatR_mk _) hkl
  rw [(hD (x, y) kl hkl).1] at hv
  rw [hrun, seatR_inv hv]

theorem SE.look_ok {w : World} {b n g} (h : SE w b n g) (x y : Int) (hw : Wf2 (x, y)) :
    (Instr.lookup 104 (.map (some b)) (.agg #[.int .i64 x, .int .i64 y]) true).run Tryz.prog w = .ok (.tuple #[seatV ((g (x, y)).getD (0, 0, 0)), .bool (g (x, y)).isSome]) w := by
  obtain ⟨D, hown, hD⟩ := h
  obtain ⟨kl, hkl⟩ := keyE w x y hw.1 hw.2
  obtain ⟨v, ps, hrun, hv⟩ := hown.look_ok lawE Tryz.underlying104 (zeroS w) (seatR_mk _) hkl
  rw [(hD (x, y) kl hkl).1] at hv
  rw [hrun, seatR_inv hv, (hD (x, y) kl hkl).2]

theorem SE.put {w : World} {b n g} (h : SE w b n g) (hn : n < maxLen) (x y : Int) (hw : Wf2 (x, y)) (t : Int × Int × Int) :
    ∃ w', (Instr.mapUpdate 104 (.map (some b)) (.agg #[.int .i64 x, .int .i64 y]) (seatV t)).run Tryz.prog w = .ok () w' ∧ SE w' b (n + 1) (fun e => if e = (x, y) then some t else g e) ∧ w.grownBy w' (some b) := by
  obtain ⟨D, hown, hD⟩ := h
  obtain ⟨kl, hkl⟩ := keyE w x y hw.1 hw.2
  obtain ⟨w', hrun, hown', hg⟩ := hown.update lawE Tryz.underlying104 hn hkl (seatR_mk t)
  refine ⟨w', hrun, ⟨_, hown', fun e kl' hkl' => ?_⟩, hg⟩
  by_cases he : e = (x, y)
  · subst he
    obtain rfl : kl = kl' := by rw [hkl] at hkl'; exact Option.some.inj hkl'
    rw [atKey_put_same hown.isMap (lawE.key hkl), has_put_same hown.isMap (lawE.key hkl)]
    simp
  · have hne : kl' ≠ kl := by
      intro hk
      subst hk
      have := lawE.inj hkl' hkl
      simp at this
      exact he (Prod.ext this.1 this.2)
    rw [atKey_put_other hne, has_put_other hne]
    simp only [if_neg he]
    exact hD e kl' hkl'
end Go.Proofs.YtcodpnkfpmjleaaGreatDoor

namespace Go.Proofs.YtcodpnkfpmjleaaGreatDoor
open Go.RowKit
set_option maxHeartbeats 1000000

theorem sizeOk_any (a a' : Option Addr) (n m cap cap' : Nat) (w : World) :
    Calls Tryz.prog 39 #[.agg #[.slice a n cap, .slice a' m cap']] w fun e w' =>
    e = .returned (.bool (inR n 1 100 && decide ((m : Int) ≤ 120))) ∧ Below w.heap.size w w' := by
  cases h : inR (n : Int) 1 100
  all_goals
    have H := hide h
    clear h
    go_enter Tryz.func39, Tryz.ntmps39
    go_wp2_with fail
    refine (inRange_any _ _ _ _).mono ?_
    rintro e w1 ⟨rfl, rfl⟩
    rw [H.out]
    go_wp2_with fail
    go_ret
    exact ⟨ret_b (by simp), (Below.refl _ _).alloc (Nat.le_refl _) _⟩

theorem pieceOk_any (p : Pc) (w : World) (hs : p.name.size ≤ 1048576) :
    Calls Tryz.prog 76 #[.agg #[.string p.name, .int .i64 p.len, .int .i64 p.speed, .int .i64 p.brake]] w fun e w' =>
    e = .returned (.bool p.ok) ∧ Below w.heap.size w w' := by
  cases h1 : nm p.name
  · have H1 := hide h1
    clear h1
    go_enter Tryz.func76, Tryz.ntmps76
    go_wp2_with fail
    refine (nameOk_any p.name _ hs).mono ?_
    rintro e w1 ⟨rfl, rfl⟩
    rw [H1.out]
    go_wp2_with fail
    go_ret
    exact ⟨ret_b (by simp [Pc.ok, H1.out]), (Below.refl _ _).alloc (Nat.le_refl _) _⟩
  have H1 := hide h1
  clear h1
  cases h2 : inR p.len 1 10000000
  · have H2 := hide h2
    clear h2
    go_enter Tryz.func76, Tryz.ntmps76
    go_wp2_with fail
    refine (nameOk_any p.name _ hs).mono ?_
    rintro e w1 ⟨rfl, rfl⟩
    rw [H1.out]
    go_wp2_with fail
    refine (inRange_any _ _ _ _).mono ?_
    rintro e w1 ⟨rfl, rfl⟩
    rw [H2.out]
    go_wp2_with fail
    go_ret
    exact ⟨ret_b (by simp [Pc.ok, H2.out]), (Below.refl _ _).alloc (Nat.le_refl _) _⟩
  have H2 := hide h2
  clear h2
  cases h3 : inR p.speed 1 10000
  · have H3 := hide h3
    clear h3
    go_enter Tryz.func76, Tryz.ntmps76
    go_wp2_with fail
    refine (nameOk_any p.name _ hs).mono ?_
    rintro e w1 ⟨rfl, rfl⟩
    rw [H1.out]
    go_wp2_with fail
    refine (inRange_any _ _ _ _).mono ?_
    rintro e w1 ⟨rfl, rfl⟩
    rw [H2.out]
    go_wp2_with fail
    refine (inRange_any _ _ _ _).mono ?_
    rintro e w1 ⟨rfl, rfl⟩
    rw [H3.out]
    go_wp2_with fail
    go_ret
    exact ⟨ret_b (by simp [Pc.ok, H3.out]), (Below.refl _ _).alloc (Nat.le_refl _) _⟩
  have H3 := hide h3
  clear h3
  go_enter Tryz.func76, Tryz.ntmps76
  go_wp2_with fail
  refine (nameOk_any p.name _ hs).mono ?_
  rintro e w1 ⟨rfl, rfl⟩
  rw [H1.out]
  go_wp2_with fail
  refine (inRange_any _ _ _ _).mono ?_
  rintro e w1 ⟨rfl, rfl⟩
  rw [H2.out]
  go_wp2_with fail
  refine (inRange_any _ _ _ _).mono ?_
  rintro e w1 ⟨rfl, rfl⟩
  rw [H3.out]
  go_wp2_with fail
  refine (inRange_any _ _ _ _).mono ?_
  rintro e w1 ⟨rfl, rfl⟩
  go_wp2_with fail
  go_ret
  exact ⟨ret_b (by simp [Pc.ok, H1.out, H2.out, H3.out]), (Below.refl _ _).alloc (Nat.le_refl _) _⟩

theorem seen_pcs (ps : List Pc) (k : Nat) (hk : k < ps.length) : seenI ((ps.take k).map (·.name.data.toList)) ps[k].name.data.toList = if (ps.take k).any (fun q => q.name.toList == ps[k].name.toList) then 1 else 0 := by
  unfold seenI
  congr 1
  rw [eq_iff_iff, List.contains_iff_exists_mem_beq, List.any_eq_true]
  simp only [List.mem_map, Lib.toList_data]
  constructor
  · rintro ⟨x, ⟨q, hq, rfl⟩, h⟩
    exact ⟨q, hq, by simpa using (beq_iff_eq.1 h).symm⟩
  · rintro ⟨q, hq, h⟩
    exact ⟨_, ⟨q, hq, rfl⟩, by simpa using (beq_iff_eq.1 h).symm⟩

theorem wrongPiece_any (a : Option Addr) (ps : List Pc) (cap : Nat) (w : World) (hn : ps.length ≤ 1048576) (hs : ∀ p ∈ ps, p.name.size ≤ 1048576) (hp : PcsAt w a ps) :
    Calls Tryz.prog 40 #[.slice a ps.length cap] w fun e w' =>
    e = .returned (.int .i64 (firstI (pcBad ps) ps.length)) ∧ Below w.heap.size w w' := by
  have HP := hide hp
  have HS := hide hs
  clear hp hs
  have hmm := @run_makeMap Tryz.prog
  go_enter Tryz.func40, Tryz.ntmps40
  go_wp2_with fail
  go_loopw [4, 5, 9] (fun _ _ i wr => ∃ (k : Nat), k ≤ ps.length ∧ i = .int .i64 k ∧ (∀ j, j < k → pcBad ps j = false) ∧ Hid (SI wr w.heap.size k ((ps.take k).map (·.name.data.toList))) ∧ Below w.heap.size w wr) (fun _ _ i _ => ps.length - (intOf i).toNat)
  case atStart => exact ⟨0, Nat.zero_le _, rfl, by intro j hj; omega, SI.made w, (Below.refl _ _).alloc (Nat.le_refl _) _⟩
  case round =>
    obtain ⟨k, hk, rfl, hall, hSI, hb⟩ := hrel
    have HA := hide hall
    clear hall hmm
    by_cases hlt : k < ps.length
    · obtain ⟨b, off, rfl, c0, c1, c2, c3⟩ := (PcsAt.later HP.out hb) k hlt
      have hblt := cell_lt c0
      have hsz := HS.out _ (List.getElem_mem hlt)
      go_wp2_with fail
      refine (pieceOk_any ps[k] _ hsz).mono ?_
      rintro e w1 ⟨rfl, hb1⟩
      have hbA : Below wr.heap.size wr w1 := ((Below.refl _ _).alloc (Nat.le_refl _) _).trans (hb1.mono (by simp))
      have hb2 := hb.trans (hbA.mono hb.size)
      have d0 := box_cell hb1 0 _ rfl
      have hSI1 := hSI.out.of_block (hbA.block _ hSI.out.lt)
      have hl := hSI1.look ps[k].name (by unfold maxLen; omega)
      rw [seen_pcs ps k hlt] at hl
      cases hok : ps[k].ok
      · have HOK := hide hok
        clear hok hl hSI1
        go_wp2_with fail
        go_ret
        exact ⟨ret_i (firstI_some hlt (by rw [pcBad_eq hlt, HOK.out]; rfl) HA.out).symm, hb2⟩
      · have HOK := hide hok
        clear hok
        cases hany : (ps.take k).any (fun q => q.name.toList == ps[k].name.toList)
        · rw [hany] at hl
          have HN := hide hany
          clear hany
          obtain ⟨w2, hput, hSI2, hg⟩ := hSI1.put (by unfold maxLen; omega) ps[k].name (by unfold maxLen; omega)
          have HSI2 := hide hSI2
          have HG := hide hg
          clear hSI2 hg hSI1
          go_wp2_with fail
          go_roundw
          case rel =>
            refine ⟨k + 1, by omega, by go_num, ?_, ?_, hb2.grown HG.out hb2.size (fun j hj => by cases hj; exact Nat.le_refl _)⟩
            · intro j hj
              by_cases e : j = k
              · subst e; rw [pcBad_eq hlt, HN.out, HOK.out]; rfl
              · exact HA.out j (by omega)
            · show SI _ _ _ _
              rw [List.take_succ_eq_append_getElem hlt, List.map_append]
              exact HSI2.out
          case measure => simp [intOf]; omega
        · rw [hany] at hl
          have HN := hide hany
          clear hany hSI1
          go_wp2_with fail
          go_ret
          exact ⟨ret_i (firstI_some hlt (by rw [pcBad_eq hlt, HN.out]; simp) HA.out).symm, hb2⟩
    · go_wp2_with fail
      go_ret
      exact ⟨ret_i (firstI_none (fun j hj => HA.out j (by omega))).symm, hb⟩
end Go.Proofs.YtcodpnkfpmjleaaGreatDoor

namespace Go.Proofs.YtcodpnkfpmjleaaGreatDoor
open Go.RowKit
set_option maxHeartbeats 1000000

theorem kindOf_none (k : Int) (h : k < 1 ∨ 4 < k) (w : World) : Calls Tryz.prog 61 #[.int .i64 k] w fun e w' => e = .returned .nilIface ∧ w = w' := by
  have h1 : (k == 1) = false := by rw [beq_eq_false_iff_ne]; omega
  have h2 : (k == 2) = false := by rw [beq_eq_false_iff_ne]; omega
  have h3 : (k == 3) = false := by rw [beq_eq_false_iff_ne]; omega
  have h4 : (k == 4) = false := by rw [beq_eq_false_iff_ne]; omega
  clear h
  go_enter Tryz.func61, Tryz.ntmps61
  go_wp2
  go_ret
  exact ⟨rfl, rfl⟩

theorem kindOf_1 (w : World) : Calls Tryz.prog 61 #[.int .i64 1] w fun e w' => e = .returned (.iface 186 (.agg #[])) ∧ w = w' := by
  go_enter Tryz.func61, Tryz.ntmps61
  go_wp2
  go_ret
  exact ⟨rfl, rfl⟩
theorem mn_1 (w : World) : (method 403 186 (.agg #[]) "loop.example/ballast/impl.named").run Tryz.prog w = .ok (200, .agg #[]) w := by kernel_rfl
theorem ms_1 (w : World) : (method 403 186 (.agg #[]) "loop.example/ballast/impl.size").run Tryz.prog w = .ok (201, .agg #[]) w := by kernel_rfl
theorem size_1 (w : World) : Calls Tryz.prog 201 #[.agg #[]] w fun e w' => e = .returned (.int .i64 1) ∧ Below w.heap.size w w' := by
  go_enter Tryz.func201, Tryz.ntmps201
  go_wp2
  go_ret
  exact ⟨rfl, (Below.refl _ _).alloc (Nat.le_refl _) _⟩
theorem named_1 (w : World) : Calls Tryz.prog 200 #[.agg #[]] w fun e w' => e = .returned (.bool false) ∧ Below w.heap.size w w' := by
  go_enter Tryz.func200, Tryz.ntmps200
  go_wp2
  go_ret
  exact ⟨rfl, (Below.refl _ _).alloc (Nat.le_refl _) _⟩

theorem kindOf_2 (w : World) : Calls Tryz.prog 61 #[.int .i64 2] w fun e w' => e = .returned (.iface 187 (.agg #[])) ∧ w = w' := by
  go_enter Tryz.func61, Tryz.ntmps61
  go_wp2
  go_ret
  exact ⟨rfl, rfl⟩
theorem mn_2 (w : World) : (method 403 187 (.agg #[]) "loop.example/ballast/impl.named").run Tryz.prog w = .ok (202, .agg #[]) w := by kernel_rfl
theorem ms_2 (w : World) : (method 403 187 (.agg #[]) "loop.example/ballast/impl.size").run Tryz.prog w = .ok (203, .agg #[]) w := by kernel_rfl
theorem size_2 (w : World) : Calls Tryz.prog 203 #[.agg #[]] w fun e w' => e = .returned (.int .i64 2) ∧ Below w.heap.size w w' := by
  go_enter Tryz.func203, Tryz.ntmps203
  go_wp2
  go_ret
  exact ⟨rfl, (Below.refl _ _).alloc (Nat.le_refl _) _⟩
theorem named_2 (w : World) : Calls Tryz.prog 202 #[.agg #[]] w fun e w' => e = .returned (.bool false) ∧ Below w.heap.size w w' := by
  go_enter Tryz.func202, Tryz.ntmps202
  go_wp2
  go_ret
  exact ⟨rfl, (Below.refl _ _).alloc (Nat.le_refl _) _⟩

theorem kindOf_3 (w : World) : Calls Tryz.prog 61 #[.int .i64 3] w fun e w' => e = .returned (.iface 188 (.agg #[])) ∧ w = w' := by
  go_enter Tryz.func61, Tryz.ntmps61
  go_wp2
  go_ret
  exact ⟨rfl, rfl⟩
theorem mn_3 (w : World) : (method 403 188 (.agg #[]) "loop.example/ballast/impl.named").run Tryz.prog w = .ok (204, .agg #[]) w := by kernel_rfl
theorem ms_3 (w : World) : (method 403 188 (.agg #[]) "loop.example/ballast/impl.size").run Tryz.prog w = .ok (205, .agg #[]) w := by kernel_rfl
theorem size_3 (w : World) : Calls Tryz.prog 205 #[.agg #[]] w fun e w' => e = .returned (.int .i64 3) ∧ Below w.heap.size w w' := by
  go_enter Tryz.func205, Tryz.ntmps205
  go_wp2
  go_ret
  exact ⟨rfl, (Below.refl _ _).alloc (Nat.le_refl _) _⟩
theorem named_3 (w : World) : Calls Tryz.prog 204 #[.agg #[]] w fun e w' => e = .returned (.bool true) ∧ Below w.heap.size w w' := by
  go_enter Tryz.func204, Tryz.ntmps204
  go_wp2
  go_ret
  exact ⟨rfl, (Below.refl _ _).alloc (Nat.le_refl _) _⟩

theorem kindOf_4 (w : World) : Calls Tryz.prog 61 #[.int .i64 4] w fun e w' => e = .returned (.iface 189 (.agg #[])) ∧ w = w' := by
  go_enter Tryz.func61, Tryz.ntmps61
  go_wp2
  go_ret
  exact ⟨rfl, rfl⟩
theorem mn_4 (w : World) : (method 403 189 (.agg #[]) "loop.example/ballast/impl.named").run Tryz.prog w = .ok (206, .agg #[]) w := by kernel_rfl
theorem ms_4 (w : World) : (method 403 189 (.agg #[]) "loop.example/ballast/impl.size").run Tryz.prog w = .ok (207, .agg #[]) w := by kernel_rfl
theorem size_4 (w : World) : Calls Tryz.prog 207 #[.agg #[]] w fun e w' => e = .returned (.int .i64 4) ∧ Below w.heap.size w w' := by
  go_enter Tryz.func207, Tryz.ntmps207
  go_wp2
  go_ret
  exact ⟨rfl, (Below.refl _ _).alloc (Nat.le_refl _) _⟩
theorem named_4 (w : World) : Calls Tryz.prog 206 #[.agg #[]] w fun e w' => e = .returned (.bool true) ∧ Below w.heap.size w w' := by
  go_enter Tryz.func206, Tryz.ntmps206
  go_wp2
  go_ret
  exact ⟨rfl, (Below.refl _ _).alloc (Nat.le_refl _) _⟩

theorem jointNameOk_1 (s : ByteArray) (a : Option Addr) (n cap : Nat) (w : World) :
    Calls Tryz.prog 78 #[.agg #[.int .i64 1, .string s, .slice a n cap]] w fun e w' =>
    e = .returned (.bool s.toList.isEmpty) ∧ Below w.heap.size w w' := by
  have hm := mn_1
  go_enter Tryz.func78, Tryz.ntmps78
  go_wp2_with fail
  refine (kindOf_1 _).mono ?_
  rintro e w1 ⟨rfl, rfl⟩
  go_wp2_with fail
  refine (named_1 _).mono ?_
  rintro e w1 ⟨rfl, hb1⟩
  have d1 := box_cell hb1 1 _ rfl
  have hb2 := ((Below.refl w.heap.size w).alloc (Nat.le_refl _) _).trans (hb1.mono (by simp))
  go_wp2_with fail
  go_ret
  exact ⟨rfl, hb2⟩

theorem jointNameOk_2 (s : ByteArray) (a : Option Addr) (n cap : Nat) (w : World) :
    Calls Tryz.prog 78 #[.agg #[.int .i64 2, .string s, .slice a n cap]] w fun e w' =>
    e = .returned (.bool s.toList.isEmpty) ∧ Below w.heap.size w w' := by
  have hm := mn_2
  go_enter Tryz.func78, Tryz.ntmps78
  go_wp2_with fail
  refine (kindOf_2 _).mono ?_
  rintro e w1 ⟨rfl, rfl⟩
  go_wp2_with fail
  refine (named_2 _).mono ?_
  rintro e w1 ⟨rfl, hb1⟩
  have d1 := box_cell hb1 1 _ rfl
  have hb2 := ((Below.refl w.heap.size w).alloc (Nat.le_refl _) _).trans (hb1.mono (by simp))
  go_wp2_with fail
  go_ret
  exact ⟨rfl, hb2⟩

theorem jointNameOk_3 (s : ByteArray) (a : Option Addr) (n cap : Nat) (w : World) (hs : s.size ≤ 1048576) :
    Calls Tryz.prog 78 #[.agg #[.int .i64 3, .string s, .slice a n cap]] w fun e w' =>
    e = .returned (.bool (nm s)) ∧ Below w.heap.size w w' := by
  have hm := mn_3
  go_enter Tryz.func78, Tryz.ntmps78
  go_wp2_with fail
  refine (kindOf_3 _).mono ?_
  rintro e w1 ⟨rfl, rfl⟩
  go_wp2_with fail
  refine (named_3 _).mono ?_
  rintro e w1 ⟨rfl, hb1⟩
  have d1 := box_cell hb1 1 _ rfl
  have hb2 := ((Below.refl w.heap.size w).alloc (Nat.le_refl _) _).trans (hb1.mono (by simp))
  go_wp2_with fail
  refine (nameOk_any s _ hs).mono ?_
  rintro e w2 ⟨rfl, rfl⟩
  go_wp2_with fail
  go_ret
  exact ⟨rfl, hb2⟩

theorem jointNameOk_4 (s : ByteArray) (a : Option Addr) (n cap : Nat) (w : World) (hs : s.size ≤ 1048576) :
    Calls Tryz.prog 78 #[.agg #[.int .i64 4, .string s, .slice a n cap]] w fun e w' =>
    e = .returned (.bool (nm s)) ∧ Below w.heap.size w w' := by
  have hm := mn_4
  go_enter Tryz.func78, Tryz.ntmps78
  go_wp2_with fail
  refine (kindOf_4 _).mono ?_
  rintro e w1 ⟨rfl, rfl⟩
  go_wp2_with fail
  refine (named_4 _).mono ?_
  rintro e w1 ⟨rfl, hb1⟩
  have d1 := box_cell hb1 1 _ rfl
  have hb2 := ((Below.refl w.heap.size w).alloc (Nat.le_refl _) _).trans (hb1.mono (by simp))
  go_wp2_with fail
  refine (nameOk_any s _ hs).mono ?_
  rintro e w2 ⟨rfl, rfl⟩
  go_wp2_with fail
  go_ret
  exact ⟨rfl, hb2⟩

theorem jointOk_none (k : Int) (h : k < 1 ∨ 4 < k) (s : ByteArray) (a : Option Addr) (es : List (Int × Int)) (cap n : Nat) (w : World) :
    Calls Tryz.prog 77 #[.agg #[.int .i64 k, .string s, .slice a es.length cap], .int .i64 n] w fun e w' =>
    e = .returned (.bool false) ∧ Below w.heap.size w w' := by
  go_enter Tryz.func77, Tryz.ntmps77
  go_wp2_with fail
  refine (kindOf_none k h _).mono ?_
  rintro e w1 ⟨rfl, rfl⟩
  go_wp2_with fail
  go_quiet (fail)
  go_wp2_with fail
  go_ret
  exact ⟨rfl, below_drewN ((Below.refl _ _).alloc (Nat.le_refl _) _) _⟩
end Go.Proofs.YtcodpnkfpmjleaaGreatDoor

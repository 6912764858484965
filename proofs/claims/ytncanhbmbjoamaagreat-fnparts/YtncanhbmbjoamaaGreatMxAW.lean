/- A drawn track is right: plain. Own work. -/
import Derived.Test.YtncanhbmbjoamaaGreatMxAH
import Derived.Test.YtncanhbmbjoamaaGreatMxAC
import Derived.Test.YtncanhbmbjoamaaGreatMxAL
import Derived.Test.YtncanhbmbjoamaaGreatMxAI
import Derived.Test.YtncanhbmbjoamaaGreatTo
import Derived.Deep.RegionWith
namespace Go.Proofs.YtncanhbmbjoamaaGreat
set_option maxHeartbeats 1000000

/-! ### Names -/
theorem nameP_nm : ∀ i : Fin 9, nm (nameP (i.val : Int)) = true := by decide +kernel
theorem nameP_nm1 : ∀ i : Fin 18, nm (nameP (100 + (i.val : Int))) = true := by decide +kernel
theorem nameP_ne : ∀ i k : Fin 9, i ≠ k → ((nameP (i.val : Int)).toList == (nameP (k.val : Int)).toList) = false := by decide +kernel
theorem nameP_ne1 : ∀ i k : Fin 18, i ≠ k → ((nameP (100 + (i.val : Int))).toList == (nameP (100 + (k.val : Int))).toList) = false := by decide +kernel
theorem nameP_some : ∀ k : Fin 18, ((⟨#[]⟩ : ByteArray).toList == (nameP (100 + (k.val : Int))).toList) = false := by decide +kernel
theorem name_empty : ((⟨#[]⟩ : ByteArray).toList).isEmpty = true := by decide +kernel

theorem inR_of {x a b : Int} (h1 : a ≤ x) (h2 : x ≤ b) : inR x a b = true := by simp [inR, h1, h2]

/-! ### Pieces -/
theorem pcs_get (code : List Int) (small : Int) (c0 : Cu) : ∀ (i k : Nat) (hk : k < (pcsTo code small c0 i).1.length), ∃ c, (pcsTo code small c0 i).1[k] = pcDraw code small k c
  | 0, k, hk => by simp [pcsTo] at hk
  | i + 1, k, hk => by
    have hl := pcsTo_len code small c0 i
    have hl1 := pcsTo_len code small c0 (i + 1)
    by_cases h : k < i
    · obtain ⟨c, hc⟩ := pcs_get code small c0 i k (by omega)
      refine ⟨c, ?_⟩
      rw [← hc]
      simp only [pcsTo]
      exact List.getElem_append_left (by omega)
    · have e : k = i := by omega
      refine ⟨(pcsTo code small c0 i).2, ?_⟩
      simp only [pcsTo]
      rw [List.getElem_append_right (by omega)]
      simp [e]

/-! ### Ends -/
theorem count_swap (es : List (Int × Int)) (i k : Nat) (hi : i < es.length) (hk : k < es.length) (b : Int × Int) : (swapAt es i k).count b = es.count b := by
  unfold swapAt
  have e1 : es[i]! = es[i] := by simp [hi]
  have e2 : es[k]! = es[k] := by simp [hk]
  rw [e1, e2, List.count_set (by simpa using hk), List.count_set hi]
  have e3 : (es.set i es[k])[k]'(by simpa using hk) = es[k] := by
    rw [List.getElem_set]
    split <;> rfl
  rw [e3]
  by_cases h1 : es[i] = b
  · have : 0 < es.count b := List.count_pos_iff.2 (h1 ▸ List.getElem_mem hi)
    by_cases h2 : es[k] = b
    · simp [h1, h2]; omega
    · simp [h1, h2]; omega
  · by_cases h2 : es[k] = b
    · simp [h1, h2]
    · simp [h1, h2]
theorem count_shuf (code : List Int) (b : Int × Int) : ∀ (i : Nat) (es : List (Int × Int)) (c : Cu), (i = 0 ∨ i < es.length) → (shuf code i es c).1.count b = es.count b
  | 0, es, c, _ => rfl
  | i + 1, es, c, h => by
    have hi : i + 1 < es.length := by omega
    have hb := shufI_bd code (i + 1) c
    rw [shuf, count_shuf code b i _ _ (by rw [swapAt_len]; omega), count_swap _ _ _ hi (by omega)]
theorem mem_endsTo {e : Int × Int} : ∀ {i : Nat}, e ∈ endsTo i → 0 ≤ e.1 ∧ e.1 < i ∧ (e.2 = 0 ∨ e.2 = 1)
  | 0, h => by simp [endsTo] at h
  | i + 1, h => by
    simp only [endsTo, List.mem_append, List.mem_cons, List.not_mem_nil, or_false] at h
    rcases h with h | rfl | rfl
    · have := mem_endsTo h; omega
    · simp; omega
    · simp; omega
theorem count_endsTo (s : Int) (hs : s = 0 ∨ s = 1) (k : Nat) : ∀ i : Nat, (endsTo i).count ((k : Int), s) = if k < i then 1 else 0
  | 0 => by simp [endsTo]
  | i + 1 => by
    rw [endsTo, List.count_append, count_endsTo s hs k i]
    by_cases h : k = i
    · subst h
      rcases hs with rfl | rfl <;> simp
    · rcases hs with rfl | rfl <;> simp [List.count_cons] <;> (repeat' split) <;> omega

/-! ### Joints -/
theorem jrun_get (code : List Int) (P : Int × Int → Prop) : ∀ (f : Nat) (js : List Jt) (es : List (Int × Int)) (c : Cu), (∀ e ∈ es, P e) → (∀ k (hk : k < js.length), ∃ es' c', 0 < es'.length ∧ (∀ e ∈ es', P e) ∧ js[k] = jtDraw code k es' c') →
    ∀ k (hk : k < (jrun code f js es c).length), ∃ es' c', 0 < es'.length ∧ (∀ e ∈ es', P e) ∧ (jrun code f js es c)[k] = jtDraw code k es' c'
  | 0, js, es, c, _, h => h
  | f + 1, js, es, c, he, h => by
    intro k hk
    by_cases h0 : es.length = 0
    · have e : jrun code (f + 1) js es c = js := by rw [jrun, if_pos h0]
      obtain ⟨es', c', h1, h2, h3⟩ := h k (by rw [e] at hk; exact hk)
      exact ⟨es', c', h1, h2, by rw [← h3]; simp only [e]⟩
    · have e : jrun code (f + 1) js es c = jrun code f (js ++ [jtDraw code js.length es c]) (es.drop (jtKind code es c).toNat) (pickC code 7 c) := by rw [jrun, if_neg h0]
      obtain ⟨es', c', h1, h2, h3⟩ := jrun_get code P f (js ++ [jtDraw code js.length es c]) (es.drop (jtKind code es c).toNat) (pickC code 7 c) (fun x hx => he x (List.mem_of_mem_drop hx)) (fun m hm => by
        by_cases hm' : m < js.length
        · obtain ⟨es', c', h1, h2, h3⟩ := h m hm'
          exact ⟨es', c', h1, h2, by rw [← h3]; exact List.getElem_append_left hm'⟩
        · have : m = js.length := by simp at hm; omega
          subst this
          exact ⟨es, c, by omega, he, by simp⟩) k (by rw [e] at hk; exact hk)
      exact ⟨es', c', h1, h2, by rw [← h3]; simp only [e]⟩
theorem jrun_ends (code : List Int) : ∀ (f : Nat) (js : List Jt) (es : List (Int × Int)) (c : Cu), es.length ≤ f → allEnds (jrun code f js es c) = allEnds js ++ es
  | 0, js, es, c, h => by
    have : es = [] := List.length_eq_zero_iff.1 (by omega)
    simp [jrun, this]
  | f + 1, js, es, c, h => by
    rw [jrun]
    split
    · rename_i h0
      simp [List.length_eq_zero_iff.1 h0]
    · rename_i h0
      have := jtKind_bd code es c (by omega)
      rw [jrun_ends code f _ _ _ (by simp; omega)]
      have e : allEnds (js ++ [jtDraw code js.length es c]) = allEnds js ++ es.take (jtKind code es c).toNat := by simp [allEnds, jtDraw]
      rw [e, List.append_assoc, List.take_append_drop]
theorem jrun_len (code : List Int) : ∀ (f : Nat) (js : List Jt) (es : List (Int × Int)) (c : Cu), (jrun code f js es c).length ≤ js.length + es.length
  | 0, js, es, c => by simp [jrun]
  | f + 1, js, es, c => by
    rw [jrun]
    split
    · omega
    · have := jtKind_bd code es c (by omega)
      have := jrun_len code f (js ++ [jtDraw code js.length es c]) (es.drop (jtKind code es c).toNat) (pickC code 7 c)
      simp at this
      omega

/-- A drawn track is right. -/
theorem netP_right (code : List Int) (c : Cu) : netOk (netP code c) = (0, 0) := by
  have hk := pickV_bd (code := code) (n := 9) (by omega) (pickC code 4 c)
  generalize hK : (1 + pickV code 9 (pickC code 4 c)).toNat = K
  have hK9 : 1 ≤ K ∧ K ≤ 9 := by omega
  have hpcs : (netP code c).pcs = (pcsTo code (pickV code 4 c) (pickC code 9 (pickC code 4 c)) K).1 := by unfold netP; simp only [hK]
  have hjts : (netP code c).jts = jrun code (2 * K) [] (shuf code (2 * K - 1) (endsTo K) (pcsTo code (pickV code 4 c) (pickC code 9 (pickC code 4 c)) K).2).1 (shuf code (2 * K - 1) (endsTo K) (pcsTo code (pickV code 4 c) (pickC code 9 (pickC code 4 c)) K).2).2 := by unfold netP; simp only [hK]
  have hpl := pcsTo_len code (pickV code 4 c) (pickC code 9 (pickC code 4 c)) K
  have hpg := pcs_get code (pickV code 4 c) (pickC code 9 (pickC code 4 c)) K
  have hcs := fun b => count_shuf code b (2 * K - 1) (endsTo K) (pcsTo code (pickV code 4 c) (pickC code 9 (pickC code 4 c)) K).2 (by rw [endsTo_len]; omega)
  have hsl := shuf_len code (2 * K - 1) (endsTo K) (pcsTo code (pickV code 4 c) (pickC code 9 (pickC code 4 c)) K).2
  rw [endsTo_len] at hsl
  generalize hS : shuf code (2 * K - 1) (endsTo K) (pcsTo code (pickV code 4 c) (pickC code 9 (pickC code 4 c)) K).2 = S at *
  have hmem : ∀ e ∈ S.1, 0 ≤ e.1 ∧ e.1 < K ∧ (e.2 = 0 ∨ e.2 = 1) := fun e he => by
    have h1 : 0 < S.1.count e := List.count_pos_iff.2 he
    rw [hcs e] at h1
    exact mem_endsTo (List.count_pos_iff.1 h1)
  have hjg := jrun_get code (fun e => 0 ≤ e.1 ∧ e.1 < K ∧ (e.2 = 0 ∨ e.2 = 1)) (2 * K) [] S.1 S.2 hmem (fun k hk => by simp at hk)
  have hje := jrun_ends code (2 * K) [] S.1 S.2 (by omega)
  have hjl := jrun_len code (2 * K) [] S.1 S.2
  rw [← hpcs] at hpl hpg
  rw [← hjts] at hjg hje hjl
  simp only [List.length_nil, Nat.zero_add] at hjl
  generalize netP code c = N at *
  clear hpcs hjts hS
  refine netOk_0 ?_ ?_ ?_ ?_ ?_
  · simp only [sizeBad, Bool.or_eq_false_iff, decide_eq_false_iff_not]; omega
  · intro j hj
    rw [pcBad_eq hj]
    obtain ⟨d, hd⟩ := hpg j hj
    have hn := nameP_nm ⟨j, by omega⟩
    have ho : N.pcs[j].ok = true := by
      rw [hd]
      have b2 := pickV_bd (code := code) (n := 200) (by omega) (pcC2 code (pickV code 4 c) d)
      have b3 := pickV_bd (code := code) (n := 90) (by omega) (pickC code 200 (pcC2 code (pickV code 4 c) d))
      have b1 : 1 ≤ pcLen code (pickV code 4 c) d ∧ pcLen code (pickV code 4 c) d ≤ 300 := by
        unfold pcLen
        have p1 := pickV_bd (code := code) (n := 4) (by omega) (wideC code d)
        have p2 := wideV_bd (code := code) (n := 300) (by omega) d
        split <;> omega
      show (nm (nameP (j : Int)) && inR (pcLen code (pickV code 4 c) d) 1 10000000 && inR (1 + pickV code 200 (pcC2 code (pickV code 4 c) d)) 1 10000 && inR (1 + pickV code 90 (pickC code 200 (pcC2 code (pickV code 4 c) d))) 1 1000) = true
      rw [hn, inR_of b1.1 (by omega), inR_of (by omega) (by omega), inR_of (by omega) (by omega)]
      rfl
    rw [ho, any_take_false (fun u hu hl => ?_)]
    · rfl
    · obtain ⟨d', hd'⟩ := hpg u hl
      rw [hd, hd']
      exact nameP_ne ⟨u, by omega⟩ ⟨j, by omega⟩ (by intro e; injection e; omega)
  · intro j hj
    rw [jtBad3_eq hj]
    obtain ⟨es, d, h1, h2, h3⟩ := hjg j hj
    have hb := jtKind_bd code es d h1
    rw [h3]
    have e1 : inR (jtDraw code j es d).kind 1 4 = true := inR_of hb.1 hb.2.1
    have e2 : ((jtDraw code j es d).ends.length : Int) = (jtDraw code j es d).kind := by
      simp only [jtDraw, List.length_take]; omega
    rw [e1, e2, any_false' (fun u hl => ?_)]
    · simp
    · have := h2 _ (List.mem_of_mem_take (List.getElem_mem hl))
      unfold endOk
      rw [inR_of (by omega) (by omega), inR_of (by omega) (by omega)]
      rfl
  · intro j hj
    rw [jtBad4_eq hj]
    obtain ⟨es, d, h1, h2, h3⟩ := hjg j hj
    rw [h3]
    split
    · rename_i hk3
      have : (jtDraw code j es d).name = ⟨#[]⟩ := by
        simp only [jtDraw] at hk3 ⊢
        rw [if_neg (by omega)]
      rw [this, name_empty]; rfl
    · rename_i hk3
      have hnm : (jtDraw code j es d).name = nameP (100 + (j : Int)) := by
        simp only [jtDraw] at hk3 ⊢
        rw [if_pos (by omega)]
      rw [hnm, nameP_nm1 ⟨j, by omega⟩, any_take_false (fun u hu hl => ?_)]
      · rfl
      · obtain ⟨es', d', _, _, h3'⟩ := hjg u hl
        rw [h3']
        simp only [jtDraw]
        split
        · exact nameP_ne1 ⟨u, by omega⟩ ⟨j, by omega⟩ (by intro e; injection e; omega)
        · exact nameP_some ⟨j, by omega⟩
  · intro j hj
    have hu : ∀ s, (s = 0 ∨ s = 1) → uses N.jts ((j : Int), s) = 1 := fun s hs => by
      unfold uses
      rw [hje]
      simp only [allEnds, List.flatMap_nil, List.nil_append]
      rw [hcs, count_endsTo s hs j K, if_pos (by omega)]
    exact pcBad5_false (hu 0 (.inl rfl)) (hu 1 (.inr rfl))
end Go.Proofs.YtncanhbmbjoamaaGreat

/- FnFlip, plain: drawn lies are right; what Drive answers when a piece is laid the other way round. Own work. -/
namespace Go.Proofs.YtncanhbmbjoamaaGreat
set_option maxHeartbeats 1000000

theorem liesD_get (code : List Int) (js : List Jt) : ∀ (i k : Nat), k < i → ∃ c, (liesD code js i).1[k]? = some (if (js[k]!).kind = 3 then 1 + pickV code 2 c else 0)
  | 0, k, h => by omega
  | i + 1, k, h => by
    have hl := liesD_len code js i
    by_cases hk : k < i
    · obtain ⟨c, hc⟩ := liesD_get code js i k hk
      refine ⟨c, ?_⟩
      rw [← hc, liesD]
      split
      · exact List.getElem?_append_left (by omega)
      · exact List.getElem?_append_left (by omega)
    · obtain rfl : k = i := by omega
      refine ⟨(liesD code js k).2, ?_⟩
      rw [liesD]
      split
      · rw [List.getElem?_append_right (by omega), hl]
        simp
      · rw [List.getElem?_append_right (by omega), hl]
        simp
theorem lies_right (N : Nt) (code : List Int) : liesP N.jts (liesL N code) = true := by
  have hl : (liesL N code).length = N.jts.length := liesD_len code N.jts N.jts.length
  unfold liesP
  rw [Bool.and_eq_true]
  refine ⟨by simpa using hl, ?_⟩
  rw [List.all_eq_true]
  intro z hz
  obtain ⟨k, hk, rfl⟩ := List.getElem_of_mem hz
  have hk1 : k < N.jts.length := by simp at hk; omega
  obtain ⟨c, hc⟩ := liesD_get code N.jts N.jts.length k hk1
  have e : (liesL N code)[k]'(by omega) = if (N.jts[k]!).kind = 3 then 1 + pickV code 2 c else 0 := (List.getElem?_eq_some_iff.1 hc).2
  have e2 : N.jts[k]! = N.jts[k] := by simp [hk1]
  rw [List.getElem_zip]
  dsimp only
  rw [e, e2]
  have hp := pickV_bd (code := code) (n := 2) (by omega) c
  unfold lieOk
  split
  · rename_i h3
    rw [inR_of (by omega) (by omega), h3]
    simp
  · rw [inR_of (by omega) (by omega)]
    simp

theorem flip_A {N : Nt} {xs : List Int} {k q a wy far : Int} {x y : DRes} (hr : netOk N = (0, 0)) (hl : liesP N.jts xs = true) (hs : spotP N q a wy = true) (hf : 0 ≤ far ∧ far ≤ 1000000) (hx : DriveA N xs q a wy far x)
    (hy : DriveA (flipN k N) xs (flipS N k (q, a, wy)).1 (flipS N k (q, a, wy)).2.1 (flipS N k (q, a, wy)).2.2 far y) :
    y.code = x.code ∧ y.far = x.far ∧ y.joint = x.joint ∧ (y.q, y.at', y.way) = flipS N k (x.q, x.at', x.way) := by
  have hr' := flip_right k hr
  have hl' : liesP (flipN k N).jts xs = true := by rw [flip_lies]; exact hl
  have hs' := flip_spot (k := k) hs
  unfold DriveA at hx hy
  rw [if_pos (good_mk hr hl hs hf)] at hx
  rw [if_pos (good_mk hr' hl' hs' hf)] at hy
  obtain ⟨x0, hx0, rfl⟩ := hx
  obtain ⟨y0, hy0, rfl⟩ := hy
  obtain ⟨r', h1, h2, h3, h4, h5⟩ := drive_flip k hr hl hx0 hs hf.1 []
  obtain rfl := drive_one hr' hy0 h1
  exact ⟨h2, h3, h4, h5⟩
end Go.Proofs.YtncanhbmbjoamaaGreat

/- The laws' own helpers on lists of parts. Own work. -/
namespace Go.Proofs.YtncanhbmbjoamaaGreat
open Go.RowKit
set_option maxHeartbeats 2000000

/-- A list of parts in memory. -/
def PartsAt (w : World) (a : Option Addr) (ps : List (Int × Int × Int)) : Prop :=
  ∀ k (_ : k < ps.length), ∃ b off, a = some ⟨b, off, none⟩ ∧ w.cell? ⟨b, off + k * 3, none⟩ = some (.int .i64 ps[k].1) ∧ w.cell? ⟨b, off + k * 3 + 1, none⟩ = some (.int .i64 ps[k].2.1) ∧ w.cell? ⟨b, off + k * 3 + 2, none⟩ = some (.int .i64 ps[k].2.2)
theorem PartsAt.later {w w' : World} {a ps} (h : PartsAt w a ps) (hb : Below w.heap.size w w') : PartsAt w' a ps := by
  intro k hk
  obtain ⟨b, off, ha, h1, h2, h3⟩ := h k hk
  exact ⟨b, off, ha, cell_later' hb h1, cell_later' hb h2, cell_later' hb h3⟩

end Go.Proofs.YtncanhbmbjoamaaGreat

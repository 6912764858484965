/- What is written of a right net is read back: plain. Own work. -/
import Derived.Test.YtcodpnkfpmjleaaGreatDoorMxAC
namespace Go.Proofs.YtcodpnkfpmjleaaGreatDoor
set_option maxHeartbeats 1000000

theorem pieceB_ok : WordOk pieceB := ⟨by decide, by unfold wbyte pieceB; decide⟩
theorem speedB_ok : WordOk speedB := ⟨by decide, by unfold wbyte speedB; decide⟩
theorem brakeB_ok : WordOk brakeB := ⟨by decide, by unfold wbyte brakeB; decide⟩
theorem kindB_ok (k : Nat) : WordOk (kindB k) := by
  unfold kindB
  repeat' split
  all_goals exact ⟨by decide, by unfold wbyte; decide⟩
theorem pc_parts {p : Pc} (h : p.ok = true) : nm p.name = true ∧ inR p.len 1 10000000 = true ∧ inR p.speed 1 10000 = true ∧ inR p.brake 1 1000 = true := by
  simp only [Pc.ok, Bool.and_eq_true] at h
  exact ⟨h.1.1.1, h.1.1.2, h.1.2, h.2⟩
theorem right_kinds {N : Nt} (h : netOk N = (0, 0)) : ∀ j ∈ N.jts, 1 ≤ j.kind ∧ j.kind ≤ 4 := by
  intro j hj
  obtain ⟨k, hk, rfl⟩ := List.getElem_of_mem hj
  have := (rightN h).kind k hk
  omega
theorem wsP_ok {p : Pc} (h : p.ok = true) : ∀ w ∈ wsP p, WordOk w := by
  obtain ⟨h1, h2, h3, h4⟩ := pc_parts h
  simp only [inR, Bool.and_eq_true, decide_eq_true_eq] at h2 h3 h4
  intro w hw
  simp only [wsP, List.mem_cons, List.not_mem_nil, or_false] at hw
  rcases hw with rfl | rfl | rfl | rfl | rfl | rfl | rfl
  · exact pieceB_ok
  · exact name_word h1
  · exact dtext_word _ h2.1 h2.2
  · exact speedB_ok
  · exact dtext_word _ h3.1 (by omega)
  · exact brakeB_ok
  · exact dtext_word _ h4.1 (by omega)
theorem side_bs {s : Int} (h0 : 0 ≤ s) (h1 : s ≤ 1) : bs (dtext s) = [if s = 1 then 49 else 48] := by
  have : s = 0 ∨ s = 1 := by omega
  rcases this with rfl | rfl <;> decide +kernel
theorem endB_ok {N : Nt} (R : RightN N) {k : Nat} (hk : k < N.jts.length) {e : Int × Int} (he : e ∈ N.jts[k].ends) : WordOk (endB N.pcs e) := by
  obtain ⟨i, hi, rfl⟩ := List.getElem_of_mem he
  obtain ⟨p, h1, h2, h3, h4⟩ := R.ends k hk i hi
  have hn := name_word (pc_parts (R.pc p h2)).1
  unfold endB
  rw [h1, pnm_eq h2, side_bs h3 h4]
  refine ⟨by simp, ?_⟩
  intro c hc
  simp only [List.mem_append, List.mem_cons, List.not_mem_nil, or_false] at hc
  rcases hc with hc | rfl | rfl
  · exact hn.2 c hc
  · unfold wbyte; decide
  · split <;> (unfold wbyte; decide)
theorem jt_name {N : Nt} (h : netOk N = (0, 0)) {k : Nat} (hk : k < N.jts.length) : (3 ≤ N.jts[k].kind → nm N.jts[k].name = true ∧ (N.jts.take k).any (fun q => q.name.toList == N.jts[k].name.toList) = false) := by
  intro h3
  have := (right_facts h).2.2.2.1 k hk
  rw [jtBad4_eq hk, if_neg (by omega)] at this
  simp only [Bool.or_eq_false_iff, Bool.not_eq_false'] at this
  exact this
theorem wsJ_ok {N : Nt} (h : netOk N = (0, 0)) {k : Nat} (hk : k < N.jts.length) : ∀ w ∈ wsJ N.pcs N.jts[k], WordOk w := by
  have R := rightN h
  intro w hw
  unfold wsJ at hw
  simp only [List.mem_cons, List.mem_append, List.mem_map] at hw
  rcases hw with rfl | hw | ⟨e, he, rfl⟩
  · exact kindB_ok _
  · split at hw
    · simp at hw
    · rename_i hs
      have e : w = bs N.jts[k].name := by simpa using hw
      rw [e]
      exact name_word (jt_name h hk ((R.named k hk).2 hs)).1
  · exact endB_ok R hk he
theorem linesN_ok {N : Nt} (h : netOk N = (0, 0)) : ∀ ws ∈ linesN N, ws ≠ [] ∧ ∀ w ∈ ws, WordOk w := by
  intro ws hws
  unfold linesN at hws
  simp only [List.mem_append, List.mem_map] at hws
  rcases hws with ⟨p, hp, rfl⟩ | ⟨j, hj, rfl⟩
  · obtain ⟨k, hk, rfl⟩ := List.getElem_of_mem hp
    exact ⟨by simp [wsP], wsP_ok ((rightN h).pc k hk)⟩
  · obtain ⟨k, hk, rfl⟩ := List.getElem_of_mem hj
    exact ⟨by simp [wsJ], wsJ_ok h hk⟩
/-- The lines of the text, and the empty one behind the last. -/
theorem text_lines {N : Nt} (h : netOk N = (0, 0)) : linesL (bs (wText N)) = (linesN N).map joinB ++ [[]] := by
  have := lines_rows ((linesN N).map joinB) (by
    intro l hl
    obtain ⟨ws, hws, rfl⟩ := List.mem_map.1 hl
    exact join_clean ws (linesN_ok h ws hws).2) []
  rw [List.append_nil] at this
  rw [wText_rows (right_kinds h), this]
  rfl
theorem text_words {N : Nt} (h : netOk N = (0, 0)) : (linesL (bs (wText N))).map wordsL = linesN N ++ [[]] := by
  rw [text_lines h, List.map_append, List.map_map]
  congr 1
  conv => rhs; rw [← List.map_id (linesN N)]
  refine List.map_congr_left fun ws hws => ?_
  exact words_join ws (linesN_ok h ws hws).2
theorem full_all {wss : List (List Bl)} (h : ∀ ws ∈ wss, ws ≠ []) : fullW wss = wss := by
  unfold fullW
  rw [List.filter_eq_self]
  intro ws hws
  have := h ws hws
  cases ws with
  | nil => exact absurd rfl this
  | cons a l => rfl
theorem text_full {N : Nt} (h : netOk N = (0, 0)) : fullW ((linesL (bs (wText N))).map wordsL) = linesN N := by
  rw [text_words h, fullW_app, full_all (fun ws hws => (linesN_ok h ws hws).1)]
  simp [fullW]
/-! ### Reading it -/
theorem read_piece {N : Nt} (h : netOk N = (0, 0)) {k : Nat} (hk : k < N.pcs.length) : lineL ⟨N.pcs.take k, []⟩ (wsP N.pcs[k]) = (0, ⟨N.pcs.take (k + 1), []⟩) := by
  obtain ⟨h1, h2, h3, h4⟩ := pc_parts ((rightN h).pc k hk)
  have b2 := h2
  have b3 := h3
  have b4 := h4
  simp only [inR, Bool.and_eq_true, decide_eq_true_eq] at b2 b3 b4
  have hb := (right_facts h).2.1 k hk
  rw [pcBad_eq hk] at hb
  simp only [Bool.or_eq_false_iff] at hb
  have hix : (pieceIx ⟨N.pcs.take k, []⟩ N.pcs[k].name).isSome = false := by
    unfold pieceIx
    rw [Option.isSome_eq_false_iff, Option.isNone_iff_eq_none, List.findIdx?_eq_none_iff]
    intro q hq
    have := List.any_eq_false.1 hb.2 q hq
    simpa using this
  obtain ⟨d1, d2, _⟩ := dtext_val N.pcs[k].len b2.1 b2.2
  obtain ⟨e1, e2, _⟩ := dtext_val N.pcs[k].speed b3.1 (by omega)
  obtain ⟨f1, f2, _⟩ := dtext_val N.pcs[k].brake b4.1 (by omega)
  unfold lineL wsP
  dsimp only
  rw [if_pos rfl]
  unfold pieceL
  dsimp only
  rw [sb_bs, d2, e2, f2, if_pos ⟨rfl, rfl, h1, d1, e1, f1⟩, if_pos ⟨hix, h2, h3, h4⟩, List.take_succ_eq_append_getElem hk]
theorem kindB_ne (k : Nat) : kindB k ≠ pieceB := by
  unfold kindB
  repeat' split
  all_goals decide
theorem kindW_B {k : Nat} (h1 : 1 ≤ k) (h4 : k ≤ 4) : kindW (kindB k) = k := by
  have : k = 1 ∨ k = 2 ∨ k = 3 ∨ k = 4 := by omega
  rcases this with rfl | rfl | rfl | rfl <;> decide
theorem pieceIx_at {N : Nt} (h : netOk N = (0, 0)) {js : List Jt} {p : Nat} (hp : p < N.pcs.length) : pieceIx ⟨N.pcs, js⟩ N.pcs[p].name = some p := by
  unfold pieceIx
  rw [List.findIdx?_eq_some_iff_getElem]
  refine ⟨hp, by simp, ?_⟩
  intro u hu
  have hb := (right_facts h).2.1 p hp
  rw [pcBad_eq hp] at hb
  simp only [Bool.or_eq_false_iff] at hb
  have := List.any_eq_false.1 hb.2 (N.pcs[u]'(by omega)) (by rw [List.mem_take_iff_getElem]; exact ⟨u, by omega, rfl⟩)
  simpa using this
theorem endW_B {N : Nt} (h : netOk N = (0, 0)) (js : List Jt) {k : Nat} (hk : k < N.jts.length) {e : Int × Int} (he : e ∈ N.jts[k].ends) : endW ⟨N.pcs, js⟩ (endB N.pcs e) = (0, e) := by
  obtain ⟨i, hi, rfl⟩ := List.getElem_of_mem he
  obtain ⟨p, h1, h2, h3, h4⟩ := (rightN h).ends k hk i hi
  have hn := (pc_parts ((rightN h).pc p h2)).1
  generalize hee : N.jts[k].ends[i] = e at *
  have hl : 1 ≤ (bs N.pcs[p].name).length := by
    simp only [nm, Bool.and_eq_true, decide_eq_true_eq] at hn
    rw [bs_len]; omega
  have hix := pieceIx_at h (js := js) h2
  unfold endB
  rw [h1, pnm_eq h2, side_bs h3 h4]
  have key : ∀ (l : Bl) (d : UInt8), (l ++ [46, d]).length - 2 = l.length ∧ (l ++ [46, d]).length - 1 = l.length + 1 := by intro l d; simp
  unfold endW
  rw [(key _ _).1, (key _ _).2]
  have a1 : ∀ (l : Bl) (d : UInt8), (l ++ [46, d])[l.length]? = some 46 ∧ (l ++ [46, d])[l.length + 1]? = some d ∧ (l ++ [46, d]).take l.length = l := by
    intro l d
    refine ⟨by simp, ?_, by simp⟩
    rw [List.getElem?_append_right (by omega)]
    simp
  rw [(a1 _ _).1, (a1 _ _).2.1, (a1 _ _).2.2, sb_bs, if_pos ⟨by simp; omega, rfl, by split <;> simp, hn⟩, hix]
  have : e.2 = 0 ∨ e.2 = 1 := by omega
  obtain ⟨x, y⟩ := e
  dsimp only at *
  rcases this with rfl | rfl
  · simp [h1]
  · simp [h1]
theorem clash_no (N : Nt) : ∀ (es pre : List (Int × Int)), (∀ e ∈ es, uses N.jts e = 0) → (∀ e ∈ es, (pre ++ es).count e ≤ 1) → clashE N pre es = false
  | [], pre, _, _ => rfl
  | e :: es, pre, h1, h2 => by
    rw [clashE, h1 e (by simp)]
    have h3 := h2 e (by simp)
    have h4 : pre.contains e = false := by
      rw [← Bool.not_eq_true, List.contains_iff_mem]
      intro hm
      have := List.count_pos_iff.2 hm
      rw [List.count_append, List.count_cons_self] at h3
      omega
    rw [h4, clash_no N es (pre ++ [e]) (fun x hx => h1 x (List.mem_cons_of_mem _ hx)) (fun x hx => by
      have := h2 x (List.mem_cons_of_mem _ hx)
      rw [List.append_assoc, List.singleton_append]
      exact this)]
    rfl
theorem ends_once {N : Nt} (h : netOk N = (0, 0)) {k : Nat} (hk : k < N.jts.length) {e : Int × Int} (he : e ∈ N.jts[k].ends) : uses (N.jts.take k) e = 0 ∧ N.jts[k].ends.count e ≤ 1 := by
  obtain ⟨i, hi, rfl⟩ := List.getElem_of_mem he
  obtain ⟨p, h1, h2, h3, h4⟩ := (rightN h).ends k hk i hi
  have hok : endOk N.pcs.length N.jts[k].ends[i] = true := by
    simp only [endOk, inR, Bool.and_eq_true, decide_eq_true_eq]
    omega
  have u1 := uses_right h hok
  have u2 := uses_succ' N.jts k hk N.jts[k].ends[i]
  have u3 := uses_take_le (js := N.jts) (e := N.jts[k].ends[i]) (k := k + 1) (m := N.jts.length) (by omega)
  rw [List.take_length] at u3
  have u4 := List.count_pos_iff.2 he
  omega
theorem read_joint {N : Nt} (h : netOk N = (0, 0)) {k : Nat} (hk : k < N.jts.length) : lineL ⟨N.pcs, N.jts.take k⟩ (wsJ N.pcs N.jts[k]) = (0, ⟨N.pcs, N.jts.take (k + 1)⟩) := by
  have R := rightN h
  have hkd := R.kind k hk
  have hnd := R.named k hk
  have hjn := jt_name h hk
  have hlen : (N.jts[k].ends.length : Int) = N.jts[k].kind := by
    have := (right_facts h).2.2.1 k hk
    rw [jtBad3_eq hk] at this
    simp only [Bool.or_eq_false_iff, bne_eq_false_iff_eq] at this
    exact this.1.2
  have hE : (N.jts[k].ends.map (endB N.pcs)).map (endW ⟨N.pcs, N.jts.take k⟩) = N.jts[k].ends.map (fun e => ((0 : Int), e)) := by
    rw [List.map_map]
    exact List.map_congr_left fun e he => endW_B h _ hk he
  have hE2 : ((N.jts[k].ends.map (endB N.pcs)).map fun x => (endW ⟨N.pcs, N.jts.take k⟩ x).2) = N.jts[k].ends := by
    rw [List.map_map]
    conv => rhs; rw [← List.map_id N.jts[k].ends]
    refine List.map_congr_left fun e he => ?_
    show (endW _ (endB N.pcs e)).2 = e
    rw [endW_B h _ hk he]
  have hcl : clashE ⟨N.pcs, N.jts.take k⟩ [] N.jts[k].ends = false :=
    clash_no _ _ _ (fun e he => (ends_once h hk he).1) (fun e he => by rw [List.nil_append]; exact (ends_once h hk he).2)
  have hJE : ∀ name : ByteArray, name = N.jts[k].name → (name.size ≠ 0 → (N.jts.take k).any (fun q => q.name.toList == name.toList) = false) → jointE ⟨N.pcs, N.jts.take k⟩ N.jts[k].kind.toNat name (N.jts[k].ends.map (endB N.pcs)) = (0, ⟨N.pcs, N.jts.take (k + 1)⟩) := by
    intro name hname hany
    unfold jointE
    rw [if_neg (by rw [List.length_map]; omega), hE, hE2, hcl]
    have x1 : (N.jts[k].ends.map (fun e => ((0 : Int), e))).any (fun x => x.1 == 1) = false := by simp
    have x3 : (N.jts[k].ends.map (fun e => ((0 : Int), e))).any (fun x => x.1 == 3) = false := by simp
    rw [x1, x3, if_neg (by simp), if_neg (by simp), if_neg (by simp), if_neg (by rintro ⟨a, b⟩; rw [hany a] at b; exact absurd b (by simp)), List.take_succ_eq_append_getElem hk, hname, show ((N.jts[k].kind.toNat : Nat) : Int) = N.jts[k].kind by omega]
  unfold lineL wsJ
  dsimp only
  rw [if_neg (kindB_ne _)]
  unfold jointL
  dsimp only
  rw [kindW_B (by omega) (by omega), if_neg (by omega)]
  by_cases h3 : 3 ≤ N.jts[k].kind
  · rw [if_neg (by omega), if_neg (hnd.1 h3)]
    dsimp only [List.cons_append, List.nil_append]
    rw [sb_bs, if_pos (hjn h3).1]
    exact hJE _ rfl (fun _ => (hjn h3).2)
  · have hz : N.jts[k].name.size = 0 := by
      have := mt hnd.2 h3
      omega
    rw [if_pos (by omega), if_pos hz, List.nil_append]
    refine hJE _ ?_ ?_
    · have : bs N.jts[k].name = [] := List.length_eq_zero_iff.1 (by rw [bs_len]; exact hz)
      rw [← this, sb_bs]
    · intro hh
      exact absurd (sb_size []) (by simpa using hh)
theorem read_pcs {N : Nt} (h : netOk N = (0, 0)) : ∀ k, k ≤ N.pcs.length → readW ⟨[], []⟩ ((N.pcs.map wsP).take k) = some ⟨N.pcs.take k, []⟩
  | 0, _ => rfl
  | k + 1, hk => by
    have hk' : k < N.pcs.length := by omega
    rw [List.take_succ_eq_append_getElem (by rw [List.length_map]; omega), readW_app _ _ _ _ (read_pcs h k (by omega)), List.getElem_map, readW, read_piece h hk', if_neg (by simp), readW]
theorem read_jts {N : Nt} (h : netOk N = (0, 0)) : ∀ k, k ≤ N.jts.length → readW ⟨N.pcs, []⟩ ((N.jts.map (wsJ N.pcs)).take k) = some ⟨N.pcs, N.jts.take k⟩
  | 0, _ => rfl
  | k + 1, hk => by
    have hk' : k < N.jts.length := by omega
    rw [List.take_succ_eq_append_getElem (by rw [List.length_map]; omega), readW_app _ _ _ _ (read_jts h k (by omega)), List.getElem_map, readW, read_joint h hk', if_neg (by simp), readW]
theorem read_all {N : Nt} (h : netOk N = (0, 0)) : readW ⟨[], []⟩ (linesN N) = some N := by
  have h1 := read_pcs h N.pcs.length (Nat.le_refl _)
  have h2 := read_jts h N.jts.length (Nat.le_refl _)
  rw [List.take_of_length_le (by simp), List.take_length] at h1 h2
  unfold linesN
  rw [readW_app _ _ _ _ h1, h2]
/-- A text whose lines have the words of a right net is that net. -/
theorem told_of_words {N : Nt} (h : netOk N = (0, 0)) {t : ByteArray} (hs : t.size ≤ 65536) (hw : fullW ((linesL (bs t)).map wordsL) = linesN N) : toldP t = (0, 0, N) := by
  unfold toldP
  rw [if_neg (by omega), readG_W _ _ N _ (by rw [readW_full, hw, read_all h])]
  unfold wholeR
  rw [h]
  rfl
theorem told_text {N : Nt} (h : netOk N = (0, 0)) (hs : (wText N).size ≤ 65536) : toldP (wText N) = (0, 0, N) := told_of_words h hs (text_full h)
end Go.Proofs.YtcodpnkfpmjleaaGreatDoor

/- Other blanks and remarks: plain. Own work. -/
namespace Go.Proofs.YtcodpnkfpmjleaaGreatDoor
set_option maxHeartbeats 1000000

theorem wordsG_ok : ∀ (l word : Bl), (∀ c ∈ word, wbyte c) → (∀ c ∈ l, c ≠ 10) → ∀ w ∈ wordsG word l, WordOk w
  | [], word, h1, _ => by
    intro w hw
    rw [wordsG, putW] at hw
    split at hw
    · simp at hw
    · rename_i hne
      have e : w = word := by simpa using hw
      rw [e]
      exact ⟨hne, h1⟩
  | c :: r, word, h1, h2 => by
    have hput : ∀ w ∈ putW word, WordOk w := by
      intro w hw
      rw [putW] at hw
      split at hw
      · simp at hw
      · rename_i hne
        have e : w = word := by simpa using hw
        rw [e]
        exact ⟨hne, h1⟩
    intro w hw
    rw [wordsG] at hw
    split at hw
    · exact hput w hw
    · rename_i h35
      split at hw
      · rcases List.mem_append.1 hw with hw | hw
        · exact hput w hw
        · exact wordsG_ok r [] (by simp) (fun c hc => h2 c (List.mem_cons_of_mem _ hc)) w hw
      · rename_i hbl
        refine wordsG_ok r (word ++ [c]) ?_ (fun c hc => h2 c (List.mem_cons_of_mem _ hc)) w hw
        intro x hx
        rcases List.mem_append.1 hx with hx | hx
        · exact h1 x hx
        · have e : x = c := by simpa using hx
          rw [e]
          exact ⟨h2 c (by simp), fun e => hbl (.inl e), fun e => hbl (.inr e), h35⟩
theorem words_okL {l : Bl} (h : ∀ c ∈ l, c ≠ 10) : ∀ w ∈ wordsL l, WordOk w := wordsG_ok l [] (by simp) h
def sumL (l : List Nat) : Nat := l.foldr (· + ·) 0
theorem sumL_app (a b : List Nat) : sumL (a ++ b) = sumL a + sumL b := by
  induction a with
  | nil => simp [sumL]
  | cons x a ih =>
    have e1 : sumL (x :: a ++ b) = x + sumL (a ++ b) := rfl
    have e2 : sumL (x :: a) = x + sumL a := rfl
    rw [e1, e2, ih]; omega
theorem sumL_take (a : List Nat) (k : Nat) : sumL (a.take k) ≤ sumL a := by
  have := sumL_app (a.take k) (a.drop k)
  rw [List.take_append_drop] at this
  omega
theorem putW_sum (word : Bl) : sumL ((putW word).map List.length) ≤ word.length := by
  unfold putW
  split <;> simp [sumL]
theorem wordsG_sum : ∀ (l word : Bl), sumL ((wordsG word l).map List.length) ≤ word.length + l.length
  | [], word => by
    rw [wordsG]
    have := putW_sum word
    omega
  | c :: r, word => by
    have h0 := putW_sum word
    rw [wordsG, List.length_cons]
    split
    · omega
    · split
      · have := wordsG_sum r []
        rw [List.map_append, sumL_app]
        simp only [List.length_nil] at this
        omega
      · have := wordsG_sum r (word ++ [c])
        rw [List.length_append] at this
        simp only [List.length_singleton] at this
        omega
theorem words_two : ∀ (ws : List Bl), (∀ w ∈ ws, WordOk w) → sumL (ws.map fun w => w.length + 2) ≤ 3 * sumL (ws.map List.length)
  | [], _ => by simp [sumL]
  | w :: ws, h => by
    have h1 := words_two ws (fun x hx => h x (List.mem_cons_of_mem _ hx))
    have h2 : 1 ≤ w.length := by
      have := (h w (by simp)).1
      cases w with
      | nil => exact absurd rfl this
      | cons a l => simp
    have e1 : sumL ((w :: ws).map fun w => w.length + 2) = (w.length + 2) + sumL (ws.map fun w => w.length + 2) := rfl
    have e2 : sumL ((w :: ws).map List.length) = w.length + sumL (ws.map List.length) := rfl
    omega
theorem words_bd {l : Bl} (h : ∀ c ∈ l, c ≠ 10) : sumL ((wordsL l).map fun w => w.length + 2) ≤ 3 * l.length := by
  have h1 := words_two (wordsL l) (words_okL h)
  have h2 := wordsG_sum l []
  simp only [List.length_nil] at h2
  unfold wordsL at *
  omega
theorem linesG_no : ∀ (t cur : Bl), (∀ c ∈ cur, c ≠ 10) → ∀ l ∈ linesG cur t, ∀ c ∈ l, c ≠ 10
  | [], cur, h => by
    intro l hl
    have e : l = cur := by simpa [linesG] using hl
    rw [e]; exact h
  | x :: t, cur, h => by
    intro l hl
    rw [linesG] at hl
    split at hl
    · rcases List.mem_cons.1 hl with rfl | hl
      · exact h
      · exact linesG_no t [] (by simp) l hl
    · rename_i hx
      refine linesG_no t (cur ++ [x]) ?_ l hl
      intro c hc
      rcases List.mem_append.1 hc with hc | hc
      · exact h c hc
      · have e : c = x := by simpa using hc
        rw [e]; exact hx
theorem lines_no (t : Bl) : ∀ l ∈ linesL t, ∀ c ∈ l, c ≠ 10 := linesG_no t [] (by simp)
def looseB (Ls : List Bl) : Nat := sumL (Ls.map fun l => 13 + 3 * l.length)
theorem linesG_sum : ∀ (t cur : Bl), looseB (linesG cur t) ≤ 13 * (cur.length + t.length + 1)
  | [], cur => by
    have e : looseB (linesG cur []) = 13 + 3 * cur.length + 0 := rfl
    simp only [List.length_nil]
    omega
  | x :: t, cur => by
    rw [linesG, List.length_cons]
    split
    · have h := linesG_sum t []
      have e : looseB (cur :: linesG [] t) = (13 + 3 * cur.length) + looseB (linesG [] t) := rfl
      simp only [List.length_nil] at h
      omega
    · have h := linesG_sum t (cur ++ [x])
      rw [List.length_append] at h
      simp only [List.length_singleton] at h
      omega
theorem loose_bd (t : Bl) : looseB (linesL t) ≤ 13 * (t.length + 1) := by
  have := linesG_sum t []
  simp only [List.length_nil, Nat.zero_add] at this
  exact this
theorem looseB_succ {Ls : List Bl} {k : Nat} (hk : k < Ls.length) : looseB (Ls.take (k + 1)) = looseB (Ls.take k) + (13 + 3 * Ls[k].length) := by
  unfold looseB
  rw [List.take_succ_eq_append_getElem hk, List.map_append, sumL_app]
  rfl
/-! ### Where the writer stands -/
/-- Ahead of line k. -/
def LI (Ls : List Bl) (k : Nat) (o : Bl) : Prop :=
  ∃ M : List Bl, o = rowsB M ∧ (∀ l ∈ M, ∀ c ∈ l, c ≠ 10) ∧ fullW (M.map wordsL) = fullW ((Ls.take k).map wordsL) ∧ o.length ≤ looseB (Ls.take k)
/-- Within line k, ahead of word i. -/
def LJ (Ls : List Bl) (k : Nat) (ws : List Bl) (i : Nat) (o : Bl) : Prop :=
  ∃ (M : List Bl) (cur : Bl), o = rowsB M ++ cur ∧ (∀ l ∈ M, ∀ c ∈ l, c ≠ 10) ∧ fullW (M.map wordsL) = fullW ((Ls.take k).map wordsL) ∧ (∀ c ∈ cur, c ≠ 10) ∧ (∀ rest, wordsL (cur ++ rest) = ws.take i ++ wordsL rest) ∧ o.length ≤ looseB (Ls.take k) + 8 + sumL ((ws.take i).map fun w => w.length + 2)
theorem LI.start (Ls : List Bl) : LI Ls 0 [] := ⟨[], rfl, by simp, rfl, by simp⟩
theorem LI.begin {Ls : List Bl} {k : Nat} {o : Bl} (h : LI Ls k o) (ws : List Bl) : LJ Ls k ws 0 o := by
  obtain ⟨M, h1, h2, h3, h4⟩ := h
  exact ⟨M, [], by rw [List.append_nil]; exact h1, h2, h3, by simp, fun rest => rfl, by simp; omega⟩
theorem LI.remark {Ls : List Bl} {k : Nat} {o : Bl} (h : LI Ls k o) (ws : List Bl) {r : Bl} (hr : r = [] ∨ r = [35, 32, 112, 105, 101, 99, 101] ∨ r = [32, 32] ∨ r = [9, 35]) : LJ Ls k ws 0 (o ++ (r ++ [10])) := by
  obtain ⟨M, h1, h2, h3, h4⟩ := h
  have hw : wordsL r = [] := by rcases hr with rfl | rfl | rfl | rfl <;> rfl
  have hl : r.length ≤ 7 := by rcases hr with rfl | rfl | rfl | rfl <;> decide
  refine ⟨M ++ [r], [], ?_, ?_, ?_, by simp, fun rest => rfl, ?_⟩
  · rw [rowsB_add, h1]; simp [rowsB]
  · intro l hl
    rcases List.mem_append.1 hl with hl | hl
    · exact h2 l hl
    · have e : l = r := by simpa using hl
      rw [e]
      rcases hr with rfl | rfl | rfl | rfl <;> decide
  · rw [List.map_append, fullW_app, h3, List.map_cons, List.map_nil, hw]
    simp [fullW]
  · simp only [List.length_append, List.length_singleton]
    omega
theorem LJ.word {Ls : List Bl} {k : Nat} {ws : List Bl} {i : Nat} {o : Bl} (h : LJ Ls k ws i o) (hi : i < ws.length) (hw : WordOk ws[i]) {b : Bl} (hb : b = [] ∨ b = [32] ∨ b = [9]) : LJ Ls k ws (i + 1) (o ++ ((b ++ ws[i]) ++ [32])) := by
  obtain ⟨M, cur, h1, h2, h3, h4, h5, h6⟩ := h
  refine ⟨M, cur ++ ((b ++ ws[i]) ++ [32]), by rw [h1, List.append_assoc], h2, h3, ?_, ?_, ?_⟩
  · intro c hc
    simp only [List.mem_append, List.mem_singleton] at hc
    rcases hc with hc | (hc | hc) | rfl
    · exact h4 c hc
    · rcases hb with rfl | rfl | rfl
      · simp at hc
      · have e : c = 32 := by simpa using hc
        rw [e]; decide
      · have e : c = 9 := by simpa using hc
        rw [e]; decide
    · exact (hw.2 c hc).1
    · decide
  · intro rest
    have e : cur ++ ((b ++ ws[i]) ++ [32]) ++ rest = cur ++ (b ++ (ws[i] ++ 32 :: rest)) := by simp
    have e2 : wordsL (b ++ (ws[i] ++ 32 :: rest)) = ws[i] :: wordsL rest := by
      rcases hb with rfl | rfl | rfl
      · exact words_word hw rest
      · rw [List.singleton_append, words_blank 32 (.inl rfl)]; exact words_word hw rest
      · rw [List.singleton_append, words_blank 9 (.inr rfl)]; exact words_word hw rest
    rw [e, h5, e2, List.take_succ_eq_append_getElem hi, List.append_assoc]
    rfl
  · rw [List.take_succ_eq_append_getElem hi, List.map_append, sumL_app]
    have hbl : b.length ≤ 1 := by rcases hb with rfl | rfl | rfl <;> decide
    have e : sumL ([ws[i]].map fun w => w.length + 2) = ws[i].length + 2 := rfl
    simp only [List.length_append, List.length_singleton]
    omega
theorem LJ.close {Ls : List Bl} {k : Nat} {o : Bl} (hk : k < Ls.length) (hn : ∀ c ∈ Ls[k], c ≠ 10) (h : LJ Ls k (wordsL Ls[k]) (wordsL Ls[k]).length o) {r : Bl} (hr : r = [] ∨ r = [35, 101, 110, 100]) : LI Ls (k + 1) ((o ++ r) ++ [10]) := by
  obtain ⟨M, cur, h1, h2, h3, h4, h5, h6⟩ := h
  have hw : wordsL r = [] := by rcases hr with rfl | rfl <;> rfl
  refine ⟨M ++ [cur ++ r], ?_, ?_, ?_, ?_⟩
  · rw [rowsB_add, h1]; simp [rowsB]
  · intro l hl
    rcases List.mem_append.1 hl with hl | hl
    · exact h2 l hl
    · have e : l = cur ++ r := by simpa using hl
      rw [e]
      intro c hc
      rcases List.mem_append.1 hc with hc | hc
      · exact h4 c hc
      · have key : ∀ c ∈ r, c ≠ 10 := by rcases hr with rfl | rfl <;> decide
        exact key c ‹_›
  · rw [List.map_append, fullW_app, h3, List.take_succ_eq_append_getElem hk, List.map_append, fullW_app, List.map_cons, List.map_nil, h5 r, hw, List.take_length, List.append_nil]
    rfl
  · rw [looseB_succ hk]
    have hb := words_bd hn
    rw [List.take_length] at h6
    have : r.length ≤ 4 := by rcases hr with rfl | rfl <;> decide
    simp only [List.length_append, List.length_singleton]
    omega
/-- A text that a writer with other blanks leaves has the same words. -/
theorem LI.done {t o : Bl} (h : LI (linesL t) (linesL t).length o) : fullW ((linesL o).map wordsL) = fullW ((linesL t).map wordsL) ∧ o.length ≤ 13 * (t.length + 1) := by
  obtain ⟨M, h1, h2, h3, h4⟩ := h
  rw [List.take_length] at h3 h4
  have hb := loose_bd t
  refine ⟨?_, by omega⟩
  have h5 := lines_rows M h2 []
  rw [List.append_nil] at h5
  rw [h1, h5, List.map_append, fullW_app, h3]
  simp [linesL, linesG, fullW, wordsL, wordsG, putW]
theorem told_loose {N : Nt} (h : netOk N = (0, 0)) {o : ByteArray} (hs : 13 * ((wText N).size + 1) ≤ 65536) (hL : LI (linesL (bs (wText N))) (linesL (bs (wText N))).length (bs o)) : toldP o = (0, 0, N) := by
  obtain ⟨h1, h2⟩ := hL.done
  rw [bs_len, bs_len] at h2
  exact told_of_words h (by omega) (by rw [h1, text_full h])
end Go.Proofs.YtcodpnkfpmjleaaGreatDoor

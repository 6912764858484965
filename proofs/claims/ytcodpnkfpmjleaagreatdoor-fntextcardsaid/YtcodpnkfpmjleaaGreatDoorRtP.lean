/- What is written is read back: plain. Own work. -/
import Derived.Test.YtcodpnkfpmjleaaGreatDoorMxAB
import Derived.Test.YtcodpnkfpmjleaaGreatDoorMxAD
namespace Go.Proofs.YtcodpnkfpmjleaaGreatDoor
set_option maxHeartbeats 1000000

/-! ### Words and lines -/
def wbyte (c : UInt8) : Prop := c ≠ 10 ∧ c ≠ 32 ∧ c ≠ 9 ∧ c ≠ 35
def WordOk (l : Bl) : Prop := l ≠ [] ∧ ∀ c ∈ l, wbyte c
theorem wordsG_clean (l : Bl) (h : ∀ c ∈ l, wbyte c) : ∀ word rest, wordsG word (l ++ rest) = wordsG (word ++ l) rest := by
  induction l with
  | nil => intro word rest; simp
  | cons c l ih =>
    intro word rest
    have hc := h c (by simp)
    rw [List.cons_append, wordsG, if_neg hc.2.2.2, if_neg (by rintro (e | e); exact hc.2.1 e; exact hc.2.2.1 e), ih (fun c hc => h c (by simp [hc]))]
    simp
theorem putW_ok {l : Bl} (h : WordOk l) : putW l = [l] := if_neg h.1
/-- A word and a blank behind it. -/
theorem words_word {l : Bl} (h : WordOk l) (rest : Bl) : wordsL (l ++ 32 :: rest) = l :: wordsL rest := by
  unfold wordsL
  rw [wordsG_clean l h.2, List.nil_append, wordsG, if_neg (by decide), if_pos (.inl rfl), putW_ok h]
  rfl
theorem words_last {l : Bl} (h : WordOk l) : wordsL l = [l] := by
  have := wordsG_clean l h.2 [] []
  rw [List.append_nil] at this
  unfold wordsL
  rw [this, List.nil_append, wordsG, putW_ok h]
theorem words_blank (c : UInt8) (h : c = 32 ∨ c = 9) (rest : Bl) : wordsL (c :: rest) = wordsL rest := by
  unfold wordsL
  rw [wordsG, if_neg (by rcases h with rfl | rfl <;> decide), if_pos h]
  rfl
theorem words_remT (rest : Bl) : wordsL (35 :: rest) = [] := by
  unfold wordsL
  rw [wordsG, if_pos rfl]
  rfl
def joinB : List Bl → Bl
  | [] => []
  | [w] => w
  | w :: v :: ws => w ++ 32 :: joinB (v :: ws)
theorem words_join : ∀ (ws : List Bl), (∀ w ∈ ws, WordOk w) → wordsL (joinB ws) = ws
  | [], _ => rfl
  | [w], h => words_last (h w (by simp))
  | w :: v :: ws, h => by
    rw [joinB, words_word (h w (by simp)), words_join (v :: ws) (fun x hx => h x (List.mem_cons_of_mem _ hx))]
theorem join_clean : ∀ (ws : List Bl), (∀ w ∈ ws, WordOk w) → ∀ c ∈ joinB ws, c ≠ 10
  | [], _ => by intro c hc; simp [joinB] at hc
  | [w], h => fun c hc => ((h w (by simp)).2 c hc).1
  | w :: v :: ws, h => by
    intro c hc
    rw [joinB, List.mem_append, List.mem_cons] at hc
    rcases hc with hc | rfl | hc
    · exact ((h w (by simp)).2 c hc).1
    · decide
    · exact join_clean (v :: ws) (fun x hx => h x (List.mem_cons_of_mem _ hx)) c hc
theorem linesG_clean (l : Bl) (h : ∀ c ∈ l, c ≠ 10) : ∀ cur rest, linesG cur (l ++ rest) = linesG (cur ++ l) rest := by
  induction l with
  | nil => intro cur rest; simp
  | cons c l ih =>
    intro cur rest
    rw [List.cons_append, linesG, if_neg (h c (by simp)), ih (fun c hc => h c (by simp [hc]))]
    simp
theorem lines_line {l : Bl} (h : ∀ c ∈ l, c ≠ 10) (rest : Bl) : linesL (l ++ 10 :: rest) = l :: linesL rest := by
  unfold linesL
  rw [linesG_clean l h, List.nil_append, linesG, if_pos rfl]
def rowsB (L : List Bl) : Bl := L.flatMap (fun l => l ++ [10])
theorem lines_rows : ∀ (L : List Bl), (∀ l ∈ L, ∀ c ∈ l, c ≠ 10) → ∀ rest, linesL (rowsB L ++ rest) = L ++ linesL rest
  | [], _, rest => rfl
  | l :: L, h, rest => by
    have e : rowsB (l :: L) ++ rest = l ++ 10 :: (rowsB L ++ rest) := by simp [rowsB]
    rw [e, lines_line (h l (by simp)), lines_rows L (fun x hx => h x (List.mem_cons_of_mem _ hx)), List.cons_append]
theorem rowsB_add (L M : List Bl) : rowsB (L ++ M) = rowsB L ++ rowsB M := by simp [rowsB]
/-! ### Reading, by the words of the lines -/
def readW (N : Nt) : List (List Bl) → Option Nt
  | [] => some N
  | ws :: r => if (lineL N ws).1 ≠ 0 then none else readW (lineL N ws).2 r
theorem readG_W : ∀ (ls : List Bl) (N M : Nt) (i : Int), readW N (ls.map wordsL) = some M → readG N i ls = wholeR M
  | [], N, M, i, h => by
    have e : N = M := by simpa [readW] using h
    rw [e]; rfl
  | l :: ls, N, M, i, h => by
    rw [List.map_cons, readW] at h
    rw [readG]
    split at h
    · exact absurd h (by simp)
    · rename_i hn
      rw [if_neg hn]
      exact readG_W ls _ _ _ h
def fullW (wss : List (List Bl)) : List (List Bl) := wss.filter (fun ws => !ws.isEmpty)
theorem fullW_app (a b : List (List Bl)) : fullW (a ++ b) = fullW a ++ fullW b := by simp [fullW]
theorem readW_full : ∀ (wss : List (List Bl)) (N : Nt), readW N wss = readW N (fullW wss)
  | [], N => rfl
  | ws :: r, N => by
    cases ws with
    | nil =>
      have e : fullW ([] :: r) = fullW r := by simp [fullW]
      rw [e, readW, lineL, if_neg (by simp)]
      exact readW_full r N
    | cons a ws =>
      have e : fullW ((a :: ws) :: r) = (a :: ws) :: fullW r := by simp [fullW]
      rw [e, readW, readW]
      split
      · rfl
      · exact readW_full r _
theorem readW_app : ∀ (a b : List (List Bl)) (N M : Nt), readW N a = some M → readW N (a ++ b) = readW M b
  | [], b, N, M, h => by
    have e : N = M := by simpa [readW] using h
    rw [e]; rfl
  | ws :: a, b, N, M, h => by
    rw [readW] at h
    rw [List.cons_append, readW]
    split at h
    · exact absurd h (by simp)
    · rename_i hn
      rw [if_neg hn]
      exact readW_app a b _ _ h
/-! ### Numbers -/
theorem valG_from : ∀ (l : Bl) (n : Int), l.foldl (fun n c => 10 * n + ((c.toNat : Int) - 48)) n = n * 10 ^ l.length + valD l
  | [], n => by simp [valD]
  | c :: l, n => by
    have h1 := valG_from l (10 * n + ((c.toNat : Int) - 48))
    have h2 := valG_from l (10 * 0 + ((c.toNat : Int) - 48))
    have e : valD (c :: l) = l.foldl (fun n c => 10 * n + ((c.toNat : Int) - 48)) (10 * 0 + ((c.toNat : Int) - 48)) := rfl
    rw [e, h2, List.foldl_cons, h1, List.length_cons, Int.pow_succ]
    generalize (10 : Int) ^ l.length = P
    generalize valD l = V
    generalize (c.toNat : Int) - 48 = d
    rw [Int.add_mul, Int.add_mul, Int.mul_comm 10 n, Int.mul_assoc n 10 P, Int.mul_comm 10 P, Int.mul_zero, Int.zero_mul]
    omega
theorem valD_cons (c : UInt8) (l : Bl) : valD (c :: l) = ((c.toNat : Int) - 48) * 10 ^ l.length + valD l := by
  have := valG_from l (10 * 0 + ((c.toNat : Int) - 48))
  have e : valD (c :: l) = l.foldl (fun n c => 10 * n + ((c.toNat : Int) - 48)) (10 * 0 + ((c.toNat : Int) - 48)) := rfl
  rw [e, this, Int.mul_zero, Int.zero_add]
theorem bs_app (a b : ByteArray) : bs (a ++ b) = bs a ++ bs b := by simp [bs, ByteArray.data_append]
theorem md_zero (f : Nat) (s : ByteArray) : md f 0 s = s := by cases f <;> simp [md]
theorem md_val (f : Nat) : ∀ (n : Int) (s : ByteArray), n.toNat < f → 0 ≤ n → (bs s).all isD = true →
    (bs (md f n s)).all isD = true ∧ valD (bs (md f n s)) = n * 10 ^ (bs s).length + valD (bs s) ∧ (0 < n → (bs (md f n s)).head? ≠ some 48 ∧ 1 ≤ (bs (md f n s)).length) := by
  induction f with
  | zero => intro n s h; omega
  | succ f ih =>
    intro n s hf h0 hs
    rw [md]
    by_cases hn : n ≤ 0
    · have e : n = 0 := by omega
      subst e
      rw [if_pos (by omega)]
      exact ⟨hs, by simp, by omega⟩
    · rw [if_neg hn]
      have hd : (UInt8.ofNat (48 + n % 10).toNat).toNat = 48 + (n % 10).toNat := by
        have : (48 + n % 10).toNat < 256 := by omega
        simp only [UInt8.toNat_ofNat']
        omega
      have eb : bs (ByteArray.empty.push (UInt8.ofNat (48 + n % 10).toNat) ++ s) = UInt8.ofNat (48 + n % 10).toNat :: bs s := by rw [bs_app]; rfl
      generalize hc : UInt8.ofNat (48 + n % 10).toNat = c at *
      have hcD : isD c = true := by simp only [isD, Bool.and_eq_true, decide_eq_true_eq]; omega
      obtain ⟨h1, h2, h3⟩ := ih (n / 10) (ByteArray.empty.push c ++ s) (by omega) (by omega) (by rw [eb, List.all_cons, hcD, hs]; rfl)
      refine ⟨h1, ?_, ?_⟩
      · rw [h2, eb, valD_cons, List.length_cons, Int.pow_succ]
        generalize (10 : Int) ^ (bs s).length = P
        generalize valD (bs s) = V
        have e1 : (c.toNat : Int) - 48 = n % 10 := by omega
        rw [e1, Int.mul_comm P 10, ← Int.mul_assoc, ← Int.add_assoc, ← Int.add_mul]
        congr 2
        omega
      · intro _
        by_cases h10 : 0 < n / 10
        · exact h3 h10
        · have e : n / 10 = 0 := by omega
          rw [e, md_zero, eb]
          refine ⟨?_, by simp⟩
          rw [List.head?_cons]
          intro hh
          have : c = 48 := by simpa using hh
          rw [this] at hd
          have : (48 : UInt8).toNat = 48 := rfl
          omega
theorem dtext_val (n : Int) (h0 : 1 ≤ n) (h1 : n ≤ 10000000) : numOk (bs (dtext n)) = true ∧ valD (bs (dtext n)) = n ∧ (bs (dtext n)).all isD = true ∧ bs (dtext n) ≠ [] := by
  have hs := dtext_size n h1
  rw [← bs_len] at hs
  unfold dtext at *
  rw [if_neg (by omega)] at *
  obtain ⟨h2, h3, h4⟩ := md_val (n.toNat + 1) n ⟨#[]⟩ (by omega) (by omega) rfl
  obtain ⟨h5, h6⟩ := h4 (by omega)
  refine ⟨?_, ?_, h2, ?_⟩
  · simp only [numOk, h2, Bool.true_and, Bool.and_eq_true, Bool.or_eq_true, decide_eq_true_eq]
    exact ⟨⟨h6, hs⟩, .inl h5⟩
  · rw [h3]
    have e1 : (bs (⟨#[]⟩ : ByteArray)).length = 0 := rfl
    have e2 : valD (bs (⟨#[]⟩ : ByteArray)) = 0 := rfl
    rw [e1, e2]
    simp
  · intro e
    rw [e] at h6
    simp at h6
theorem digit_wb {c : UInt8} (h : isD c = true) : wbyte c := by
  simp only [isD, Bool.and_eq_true, decide_eq_true_eq] at h
  refine ⟨?_, ?_, ?_, ?_⟩ <;> (rintro rfl; revert h; decide)
theorem byteOk_wb {c : UInt8} (h : byteOk c = true) : wbyte c := by
  refine ⟨?_, ?_, ?_, ?_⟩ <;> (rintro rfl; revert h; decide)
theorem dtext_word (n : Int) (h0 : 1 ≤ n) (h1 : n ≤ 10000000) : WordOk (bs (dtext n)) := by
  obtain ⟨_, _, h2, h3⟩ := dtext_val n h0 h1
  exact ⟨h3, fun c hc => digit_wb (List.all_eq_true.1 h2 c hc)⟩
theorem name_word {s : ByteArray} (h : nm s = true) : WordOk (bs s) := by
  simp only [nm, Bool.and_eq_true, decide_eq_true_eq] at h
  refine ⟨?_, fun c hc => byteOk_wb (List.all_eq_true.1 h.1.1 c hc)⟩
  intro e
  have := bs_len s
  rw [e] at this
  simp at this
  omega
/-! ### The words of the text -/
def wsP (p : Pc) : List Bl := [pieceB, bs p.name, bs (dtext p.len), speedB, bs (dtext p.speed), brakeB, bs (dtext p.brake)]
def endB (ps : List Pc) (e : Int × Int) : Bl := bs (pnm ps e.1) ++ 46 :: bs (dtext e.2)
def wsJ (ps : List Pc) (j : Jt) : List Bl := kindB j.kind.toNat :: ((if j.name.size = 0 then [] else [bs j.name]) ++ j.ends.map (endB ps))
theorem lineP_rows (p : Pc) : bs (lineP p) = rowsB [joinB (wsP p)] := by
  have e1 : bs (⟨#[112, 105, 101, 99, 101, 32]⟩ : ByteArray) = pieceB ++ [32] := rfl
  have e2 : bs (⟨#[32]⟩ : ByteArray) = [32] := rfl
  have e3 : bs (⟨#[32, 115, 112, 101, 101, 100, 32]⟩ : ByteArray) = 32 :: speedB ++ [32] := rfl
  have e4 : bs (⟨#[32, 98, 114, 97, 107, 101, 32]⟩ : ByteArray) = 32 :: brakeB ++ [32] := rfl
  have e5 : bs (⟨#[10]⟩ : ByteArray) = [10] := rfl
  unfold lineP
  simp only [bs_app, e1, e2, e3, e4, e5, rowsB, joinB, wsP, List.flatMap_cons, List.flatMap_nil, List.append_nil, List.append_assoc, List.cons_append, List.nil_append]
theorem wPcs_rows : ∀ (ps : List Pc) (o : ByteArray), bs (wPcs ps o) = bs o ++ rowsB (ps.map fun p => joinB (wsP p))
  | [], o => by simp [wPcs, rowsB]
  | p :: ps, o => by
    have := wPcs_rows ps (o ++ lineP p)
    have e : wPcs (p :: ps) o = wPcs ps (o ++ lineP p) := rfl
    rw [e, this, bs_app, lineP_rows, List.append_assoc, ← rowsB_add]
    rfl
theorem kw_bs (k : Int) (h1 : 1 ≤ k) (h4 : k ≤ 4) : bs (kw k) = kindB k.toNat := by
  have : k = 1 ∨ k = 2 ∨ k = 3 ∨ k = 4 := by omega
  rcases this with rfl | rfl | rfl | rfl <;> rfl
theorem jEnds_bs (ps : List Pc) : ∀ (es : List (Int × Int)) (o : ByteArray), bs (jEnds ps es o) = bs o ++ (es.map (endB ps)).flatMap (fun w => 32 :: w)
  | [], o => by simp [jEnds]
  | e :: es, o => by
    have := jEnds_bs ps es (o ++ endT ps e)
    have e1 : jEnds ps (e :: es) o = jEnds ps es (o ++ endT ps e) := rfl
    have e2 : bs (endT ps e) = 32 :: endB ps e := by
      have x1 : bs (⟨#[32]⟩ : ByteArray) = [32] := rfl
      have x2 : bs (⟨#[46]⟩ : ByteArray) = [46] := rfl
      simp [endT, bs_app, x1, x2, endB]
    rw [e1, this, bs_app, e2, List.append_assoc]
    rfl
theorem joinB_flat (w : Bl) : ∀ (ws : List Bl), joinB (w :: ws) = w ++ ws.flatMap (fun w => 32 :: w)
  | [] => by simp [joinB]
  | v :: ws => by rw [joinB, joinB_flat v ws, List.flatMap_cons]; simp
theorem jLine_rows (ps : List Pc) (j : Jt) (h1 : 1 ≤ j.kind) (h4 : j.kind ≤ 4) (o : ByteArray) : bs (jLine ps o j) = bs o ++ rowsB [joinB (wsJ ps j)] := by
  have x1 : bs (⟨#[32]⟩ : ByteArray) = [32] := rfl
  have x2 : bs (⟨#[10]⟩ : ByteArray) = [10] := rfl
  unfold jLine jHead wsJ
  rw [bs_app, jEnds_bs, joinB_flat, x2]
  split
  · simp [bs_app, kw_bs j.kind h1 h4, rowsB]
  · simp [bs_app, kw_bs j.kind h1 h4, rowsB, x1]
theorem wJts_rows (ps : List Pc) : ∀ (js : List Jt) (_ : ∀ j ∈ js, 1 ≤ j.kind ∧ j.kind ≤ 4) (o : ByteArray), bs (wJts ps js o) = bs o ++ rowsB (js.map fun j => joinB (wsJ ps j))
  | [], _, o => by simp [wJts, rowsB]
  | j :: js, h, o => by
    have := wJts_rows ps js (fun x hx => h x (List.mem_cons_of_mem _ hx)) (jLine ps o j)
    have e : wJts ps (j :: js) o = wJts ps js (jLine ps o j) := rfl
    rw [e, this, jLine_rows ps j (h j (by simp)).1 (h j (by simp)).2, List.append_assoc, ← rowsB_add]
    rfl
def linesN (N : Nt) : List (List Bl) := N.pcs.map wsP ++ N.jts.map (wsJ N.pcs)
theorem wText_rows {N : Nt} (h : ∀ j ∈ N.jts, 1 ≤ j.kind ∧ j.kind ≤ 4) : bs (wText N) = rowsB ((linesN N).map joinB) := by
  unfold wText linesN
  rw [wJts_rows _ _ h, wPcs_rows, List.map_append, rowsB_add, List.map_map, List.map_map]
  rfl
end Go.Proofs.YtcodpnkfpmjleaaGreatDoor

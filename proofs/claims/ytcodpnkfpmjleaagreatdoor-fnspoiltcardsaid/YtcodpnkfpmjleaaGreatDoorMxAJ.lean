/- Bounds of a text's reading: plain. Own work. -/
import Derived.Test.YtcodpnkfpmjleaaGreatDoorRnW
import Derived.Test.YtcodpnkfpmjleaaGreatDoorSpC
namespace Go.Proofs.YtcodpnkfpmjleaaGreatDoor
set_option maxHeartbeats 1000000

theorem linesG_bd : ∀ (t cur : Bl), (linesG cur t).length ≤ t.length + 1 ∧ 1 ≤ (linesG cur t).length ∧ ∀ l ∈ linesG cur t, l.length ≤ cur.length + t.length
  | [], cur => by simp [linesG]
  | c :: t, cur => by
    unfold linesG
    split
    · have h := linesG_bd t []
      refine ⟨by simp only [List.length_cons]; omega, by simp, fun l hl => ?_⟩
      rcases List.mem_cons.1 hl with rfl | hl
      · simp only [List.length_cons]; omega
      · have := h.2.2 l hl
        simp only [List.length_cons, List.length_nil] at *
        omega
    · have h := linesG_bd t (cur ++ [c])
      refine ⟨by simp only [List.length_cons]; omega, h.2.1, fun l hl => ?_⟩
      have := h.2.2 l hl
      simp only [List.length_append, List.length_cons, List.length_nil] at *
      omega
theorem putW_bd (w : Bl) : (putW w).length ≤ 1 ∧ ∀ x ∈ putW w, x.length ≤ w.length := by
  unfold putW
  split
  · simp
  · simp
theorem wordsG_bd : ∀ (t word : Bl), (wordsG word t).length ≤ t.length + 1 ∧ ∀ l ∈ wordsG word t, l.length ≤ word.length + t.length
  | [], word => by
    have h := putW_bd word
    rw [wordsG]
    exact ⟨by simpa using h.1, fun l hl => by have := h.2 l hl; simp; exact this⟩
  | c :: t, word => by
    have hp := putW_bd word
    unfold wordsG
    split
    · exact ⟨by simp only [List.length_cons]; omega, fun l hl => by have := hp.2 l hl; simp only [List.length_cons]; omega⟩
    · split
      · have h := wordsG_bd t []
        refine ⟨by simp only [List.length_append, List.length_cons]; omega, fun l hl => ?_⟩
        rcases List.mem_append.1 hl with hl | hl
        · have := hp.2 l hl; simp only [List.length_cons]; omega
        · have := h.2 l hl
          simp only [List.length_cons, List.length_nil] at *
          omega
      · have h := wordsG_bd t (word ++ [c])
        refine ⟨by simp only [List.length_cons]; omega, fun l hl => ?_⟩
        have := h.2 l hl
        simp only [List.length_append, List.length_cons, List.length_nil] at *
        omega
/-- How great a net is that a text has told so far. -/
structure NSz (N : Nt) (i : Nat) : Prop where
  pcs : N.pcs.length ≤ i
  jts : N.jts.length ≤ i
  pn : ∀ p ∈ N.pcs, p.name.size ≤ 20
  jn : ∀ j ∈ N.jts, j.name.size ≤ 20 ∧ j.ends.length ≤ 4
theorem NSz.more {N : Nt} {i : Nat} (h : NSz N i) : NSz N (i + 1) := ⟨by have := h.pcs; omega, by have := h.jts; omega, h.pn, h.jn⟩
theorem nm_sizeR {s : ByteArray} (h : nm s = true) : s.size ≤ 20 := by
  simp only [nm, Bool.and_eq_true, decide_eq_true_eq] at h
  exact h.2
theorem NSz.piece {N : Nt} {i : Nat} (h : NSz N i) (ws : List Bl) : NSz (pieceL N ws).2 (i + 1) ∧ (pieceL N ws).2.jts = N.jts := by
  unfold pieceL
  split
  · split
    · rename_i hc
      split
      · refine ⟨⟨?_, ?_, fun p hp => ?_, h.jn⟩, rfl⟩
        · have := h.pcs
          simp only [List.length_append, List.length_singleton]
          omega
        · have := h.jts
          dsimp only
          omega
        · rcases List.mem_append.1 hp with hp | hp
          · exact h.pn p hp
          · rw [List.mem_singleton.1 hp]
            exact nm_sizeR hc.2.2.1
      · exact ⟨h.more, rfl⟩
    · exact ⟨h.more, rfl⟩
  · exact ⟨h.more, rfl⟩
theorem NSz.jointE {N : Nt} {i kd : Nat} (h : NSz N i) (hk : kd ≤ 4) {name : ByteArray} (hn : name.size ≤ 20) (ws : List Bl) : NSz (jointE N kd name ws).2 (i + 1) ∧ (jointE N kd name ws).2.pcs = N.pcs := by
  unfold Go.Proofs.YtcodpnkfpmjleaaGreatDoor.jointE
  split
  · exact ⟨h.more, rfl⟩
  rename_i hl
  split
  · exact ⟨h.more, rfl⟩
  split
  · exact ⟨h.more, rfl⟩
  split
  · exact ⟨h.more, rfl⟩
  split
  · exact ⟨h.more, rfl⟩
  · refine ⟨⟨?_, ?_, h.pn, fun j hj => ?_⟩, rfl⟩
    · have := h.pcs
      dsimp only
      omega
    · have := h.jts
      simp only [List.length_append, List.length_singleton]
      omega
    · rcases List.mem_append.1 hj with hj | hj
      · exact h.jn j hj
      · rw [List.mem_singleton.1 hj]
        refine ⟨hn, ?_⟩
        rw [List.length_map]
        omega
theorem NSz.joint {N : Nt} {i : Nat} (h : NSz N i) (ws : List Bl) : NSz (jointL N ws).2 (i + 1) ∧ (jointL N ws).2.pcs = N.pcs := by
  unfold jointL
  split
  · exact ⟨h.more, rfl⟩
  · split
    · exact ⟨h.more, rfl⟩
    · split
      · exact h.jointE (kindW_le _) (by rw [sb_size]; simp) _
      · split
        · exact ⟨h.more, rfl⟩
        · split
          · rename_i hn
            exact h.jointE (kindW_le _) (nm_sizeR hn) _
          · exact ⟨h.more, rfl⟩
end Go.Proofs.YtcodpnkfpmjleaaGreatDoor

/- spec.ReadNet. Own work. -/
namespace Go.Proofs.YtcodpnkfpmjleaaGreatDoor
open Go.RowKit Go.Sort
set_option maxHeartbeats 8000000
set_option maxRecDepth 100000

theorem owns_Ko {w w' : World} {base bn : Nat} {e e' : TypeId} {size size' : Nat} {v pv : Value} {n n' : Nat} {xs xs' : List Value} (h : w.ownsRow base e size v n xs) (hp : w.ownsRow base e' size' pv n' xs') (hne : e ≠ e') (hk : Ko bn pv w w') (hb : bn < base) : w'.ownsRow base e size v n xs := by
  have hno := owns_ne h hp hne
  refine ⟨h.1, ?_⟩
  rcases h.2 with h' | ⟨g, cap, cur, rfl, hbg, hg, rest⟩
  · exact .inl h'
  · refine .inr ⟨g, cap, cur, rfl, hbg, ?_, rest⟩
    rw [hk.block g (Array.getElem?_eq_some_iff.1 hg).1 (by omega) (fun e9 => ?_)]
    · exact hg
    · rcases hno with hno | hno
      · cases hno
      · exact hno e9.symm
theorem Ko.cell {bn : Nat} {v : Value} {w w' : World} (h : Ko bn v w w') {b o : Nat} {u : Value} (hc : w.cell? ⟨b, o, none⟩ = some u) (hb : b ≠ bn) (hv : v.ownBlock ≠ some b) : w'.cell? ⟨b, o, none⟩ = some u :=
  (World.cell?_of_block (a := ⟨b, o, none⟩) (h.block b (cell_lt hc) hb hv)).trans hc
theorem Ko.frozen {bn : Nat} {v : Value} {w w' : World} (h : Ko bn v w w') {b o : Nat} {u : Value} (hc : w.cell? ⟨b, 0, none⟩ = some u) (hb : b ≠ bn) (hv : v.ownBlock ≠ some b) : w'.frozen? ⟨b, o, none⟩ = w.frozen? ⟨b, o, none⟩ :=
  World.frozen?_of_block (a := ⟨b, o, none⟩) (h.block b (cell_lt hc) hb hv)
/-- The answer's box, empty. -/
structure TBx (w wr : World) : Prop where
  c0 : wr.cell? ⟨w.heap.size, 0, none⟩ = some (.int .i64 0)
  c1 : wr.cell? ⟨w.heap.size, 1, none⟩ = some (.int .i64 0)
  c2 : wr.cell? ⟨w.heap.size, 2, none⟩ = some (.slice none 0 0)
  c3 : wr.cell? ⟨w.heap.size, 3, none⟩ = some (.slice none 0 0)
  f : ∀ o, wr.frozen? ⟨w.heap.size, o, none⟩ = false
theorem TBx.later {w wr w' : World} (h : TBx w wr) (hb : Below wr.heap.size wr w') : TBx w w' :=
  ⟨cell_later' hb h.c0, cell_later' hb h.c1, cell_later' hb h.c2, cell_later' hb h.c3, fun o => by rw [hb.frozen (p := ⟨w.heap.size, o, none⟩) (cell_lt h.c0)]; exact h.f o⟩
theorem TBx.ko {w wr w' : World} {v : Value} (h : TBx w wr) (hk : Ko (w.heap.size + 1) v wr w') (hv : ∀ g, v.ownBlock = some g → w.heap.size + 2 ≤ g) : TBx w w' := by
  have hne : v.ownBlock ≠ some w.heap.size := fun e => by have := hv _ e; omega
  exact ⟨hk.cell h.c0 (by omega) hne, hk.cell h.c1 (by omega) hne, hk.cell h.c2 (by omega) hne, hk.cell h.c3 (by omega) hne, fun o => (hk.frozen h.c0 (by omega) hne).trans (h.f o)⟩
theorem below_ko {w wr w' : World} {v : Value} (h : Below w.heap.size w wr) (hk : Ko (w.heap.size + 1) v wr w') (hv : ∀ g, v.ownBlock = some g → w.heap.size + 2 ≤ g) : Below w.heap.size w w' :=
  ⟨hk.os.trans h.os, hk.tape.trans h.tape, hk.output.trans h.output, Nat.le_trans h.size hk.size, fun b hb => (hk.block b (Nat.lt_of_lt_of_le hb h.size) (by omega) (fun e => by have := hv _ e; omega)).trans (h.block b hb)⟩
theorem KR.midLow {w w' : World} {base B C : Nat} {jv : Value} {js : List Jr} (h : KR w base jv js) (hm : Mid B C w w') (hC : C ≤ base) : KR w' base jv js :=
  ⟨owns_mid h.own hm hC, fun t ht => by obtain ⟨eb, h1, h2⟩ := h.ends t ht; exact ⟨eb, h1, owns_mid h2 hm hC⟩, h.apart⟩
theorem KR.low_base {w : World} {base base' : Nat} {jv : Value} {js : List Jr} (h : KR w base jv js) (hb : base' ≤ base) : KR w base' jv js :=
  ⟨owns_mono h.own hb, fun t ht => by obtain ⟨eb, h1, h2⟩ := h.ends t ht; exact ⟨eb, h1, owns_mono h2 hb⟩, h.apart⟩
def ReadPost (T : Int × Int × Nt) (w : World) (e : Ending) (w' : World) : Prop := ∃ pv jv js, e = .returned (.agg #[.int .i64 T.1, .int .i64 T.2.1, pv, jv]) ∧ w'.ownsRow w.heap.size 63 4 pv T.2.2.pcs.length (pcCells T.2.2.pcs) ∧ KR w' w.heap.size jv js ∧ js.map (fun t : Jr => t.jt) = T.2.2.jts ∧ Below w.heap.size w w'
theorem readPost_none {c l : Int} {w w' : World} (hb : Below w.heap.size w w') : ReadPost (c, l, ⟨[], []⟩) w (.returned (.agg #[.int .i64 c, .int .i64 l, .slice none 0 0, .slice none 0 0])) w' :=
  ⟨_, _, [], rfl, World.ownsRow_nil _ _ _ _, KR.nil _ _, rfl, hb⟩
theorem strs_cap {w : World} {base : Nat} {v : Value} {ws : List Bl} (h : w.ownsRow base 9 1 v ws.length (strCells ws)) : ∃ z c, v = .slice z ws.length c ∧ StrsAtR w z ws ∧ ws.length ≤ c := by
  rcases id h.2 with ⟨rfl, h0⟩ | ⟨g, cap, cur, rfl, _, _, hn, _⟩
  · exact ⟨none, 0, by rw [h0], fun k hk => by omega, by omega⟩
  · refine ⟨_, cap, rfl, fun k hk => ⟨g, 0, rfl, ?_⟩, hn⟩
    rw [Nat.zero_add, h.cellAt _ (by omega)]
    simp [strCells, hk]
theorem specReadNet_any (s : ByteArray) (w : World) (hs : s.size ≤ 1048576) :
    Calls Tryz.prog 12 #[.string s] w fun e w' => ReadPost (toldP s) w e w' := by
  have hA := (Below.refl w.heap.size w).alloc (Nat.le_refl _) (.cells #[.int .i64 0, .int .i64 0, .slice none 0 0, .slice none 0 0] 30)
  have HA := hide hA
  clear hA
  by_cases h6 : (65536 : Int) < (s.size : Int)
  · have g6 : decide ((s.size : Int) > 65536) = true := decide_eq_true h6
    have HR := hide (show toldP s = (6, 0, ⟨[], []⟩) by unfold toldP; rw [if_pos (by omega)])
    have HBW := hide (HA.out.setCell (p := ⟨w.heap.size, 0, none⟩) (Nat.le_refl _) (.int .i64 6))
    clear h6
    go_enter Tryz.func12, Tryz.ntmps12
    go_wp2_with fail
    rw [HR.out]
    exact bodyPost_ret (v := .agg #[.int .i64 6, .int .i64 0, .slice none 0 0, .slice none 0 0]) (by simp [results, Tryz.results12, go_sem]) rfl (readPost_none (by first | exact (Below.refl w.heap.size w).alloc (Nat.le_refl _) _ | exact HBW.out))
  · have g6 : decide ((s.size : Int) > 65536) = false := decide_eq_false h6
    have HT := hide (show toldP s = readG ⟨[], []⟩ 0 (linesL (bs s)) by unfold toldP; rw [if_neg (by omega)])
    have hlb := linesG_bd (bs s) []
    rw [bs_len] at hlb
    have HLB := hide (show (linesL (bs s)).length ≤ s.size + 1 ∧ ∀ l ∈ linesL (bs s), l.length ≤ s.size from ⟨hlb.1, fun l hl => by have := hlb.2.2 l hl; simpa using this⟩)
    have h65 : s.size ≤ 65536 := by omega
    clear hlb h6
    have hA2 := ((Below.refl w.heap.size w).alloc (Nat.le_refl _) (.cells #[.int .i64 0, .int .i64 0, .slice none 0 0, .slice none 0 0] 30)).alloc (by simp) (.cells #[.slice none 0 0, .slice none 0 0] 26)
    have HB2 := hide hA2
    have HT2 : Hid (TBx w ((w.alloc (.cells #[.int .i64 0, .int .i64 0, .slice none 0 0, .slice none 0 0] 30)).alloc (.cells #[.slice none 0 0, .slice none 0 0] 26))) := ⟨by simp [go_sem], by simp [go_sem], by simp [go_sem], by simp [go_sem], fun o => by simp [go_sem]⟩
    have HN2 : Hid (NBx (w.heap.size + 2) ((w.alloc (.cells #[.int .i64 0, .int .i64 0, .slice none 0 0, .slice none 0 0] 30)).alloc (.cells #[.slice none 0 0, .slice none 0 0] 26)) (w.heap.size + 1) (.slice none 0 0) (.slice none 0 0) [] []) := ⟨by simp [go_sem], by simp [go_sem], fun o => by simp [go_sem], World.ownsRow_nil _ _ _ _, KR.nil _ _, by omega, by simp⟩
    clear hA2 HA
    go_enter Tryz.func12, Tryz.ntmps12
    go_wp2_with fail
    generalize (w.alloc (.cells #[.int .i64 0, .int .i64 0, .slice none 0 0, .slice none 0 0] 30)).alloc (.cells #[.slice none 0 0, .slice none 0 0] 26) = w2 at *
    refine (l2lines_any s _ hs).mono ?_
    rintro e w3 ⟨v, rfl, how, hb3⟩
    obtain ⟨lines, hln⟩ : ∃ lines, linesL (bs s) = lines := ⟨_, rfl⟩
    rw [hln] at how HLB HT
    have HT3 := hide (HT2.out.later hb3)
    have HN3 := hide (HN2.out.later hb3)
    have HB3 := hide (HB2.out.trans (hb3.mono HB2.out.size))
    have HO3 := hide (owns_low how (base' := w.heap.size + 2) (by have := HN2.out.hi; omega))
    have HR := hide HT.out.symm
    clear how hb3 hln HT HT2 HN2 HB2
    obtain ⟨zl, cl, rfl⟩ : ∃ z c, v = .slice z lines.length c := by
      rcases HO3.out.2 with ⟨h, h0⟩ | ⟨g, cap, cur, h, _⟩
      · exact ⟨none, 0, by rw [h, h0]⟩
      · exact ⟨_, cap, h⟩
    have hll : lines.length ≤ 65537 := by have := HLB.out.1; omega
    go_wp2_with fail
    go_loopw [4, 5, 6, 7, 16] (fun _ _ _ _ q16 wr => ∃ (i : Nat) (pv jv : Value) (ps : List Pc) (js : List Jr), i ≤ lines.length ∧ q16 = .int .i64 i ∧ Hid (NSz ⟨ps, js.map (·.jt)⟩ i) ∧ Hid (NBx (w.heap.size + 2) wr (w.heap.size + 1) pv jv ps js) ∧ Hid (readG ⟨ps, js.map (·.jt)⟩ i (lines.drop i) = toldP s) ∧ Hid (wr.ownsRow (w.heap.size + 2) 9 1 (.slice zl lines.length cl) lines.length (strCells lines)) ∧ Hid (TBx w wr) ∧ Hid (Below w.heap.size w wr)) (fun _ _ _ _ q16 _ => lines.length - (intOf q16).toNat)
    case atStart => exact ⟨0, _, _, [], [], Nat.zero_le _, rfl, ⟨by simp, by simp, by simp, by simp⟩, HN3, HR, HO3, HT3, HB3⟩
    case round =>
      obtain ⟨i, pv, jv, ps, js, hi, rfl, HSZ, HN, HG, HO, HT, HB⟩ := hrel
      rename World => w4
      clear HT3 HN3 HB3 HO3 HR
      by_cases hlt : i < lines.length
      · have hii : (i : Int) < (lines.length : Int) := by omega
        obtain ⟨zz, cc, ezz, hS, _⟩ := strs_cap HO.out
        obtain ⟨rfl, rfl⟩ : zl = zz ∧ cl = cc := by simpa using ezz
        obtain ⟨b, o, rfl, c0⟩ := hS i hlt
        have hlc := cell_lt c0
        have hG := HG.out
        rw [List.drop_eq_getElem_cons hlt, readG] at hG
        have HLL := hide (HLB.out.2 lines[i] (List.getElem_mem hlt))
        obtain ⟨l, hl⟩ : ∃ l, lines[i] = l := ⟨_, rfl⟩
        rw [hl] at c0 hG HLL
        have HG2 := hide hG
        have hsl : (sb l).size ≤ 1048576 := by rw [sb_size]; have := HLL.out; omega
        clear hl hG ezz hS HG
        go_wp2_with fail
        refine (l2words_any (sb l) _ hsl).mono ?_
        rintro e w5 ⟨v, rfl, how, hb5⟩
        rw [bs_sb] at how
        have hwb := wordsG_bd l []
        obtain ⟨ws, hws⟩ : ∃ ws, wordsL l = ws := ⟨_, rfl⟩
        have hwb1 : ws.length ≤ l.length + 1 := by rw [← hws]; exact hwb.1
        have HWL := hide (show ∀ x ∈ ws, x.length ≤ 1048576 from fun x hx => by rw [← hws] at hx; have h1 := hwb.2 x hx; have h2 := HLL.out; simp only [List.length_nil] at h1; omega)
        rw [hws] at how HG2
        have hlw : l.length ≤ 65536 := by have := HLL.out; omega
        obtain ⟨z6, c6, rfl, hS6, hc6⟩ := strs_cap how
        have HS6 := hide hS6
        have HN5 := hide (HN.out.later hb5)
        have HO5 := hide (owns_later' HO.out hb5)
        have HT5 := hide (HT.out.later hb5)
        have HB5 := hide (HB.out.trans (hb5.mono HB.out.size))
        clear how hb5 hwb hws hS6 HN HO HT HB c0 hlc HLL
        by_cases h0 : ws.length = 0
        · have g0 : ((ws.length : Int) == 0) = true := by rw [beq_iff_eq]; omega
          have HG3 : Hid (readG ⟨ps, js.map (·.jt)⟩ ((i + 1 : Nat) : Int) (lines.drop (i + 1)) = toldP s) := by
            show _ = _
            have h := HG2.out
            rw [List.eq_nil_of_length_eq_zero h0] at h
            simpa [lineL] using h
          have HSZ2 := hide HSZ.out.more
          clear h0
          go_wp2_with fail
          go_roundw
          case rel => exact ⟨i + 1, pv, jv, ps, js, by omega, by go_num, HSZ2, HN5, HG3, HO5, HT5, HB5⟩
          case measure => simp [intOf]; omega
        · have g0 : ((ws.length : Int) == 0) = false := by rw [beq_eq_false_iff_ne]; omega
          have h1 : 1 ≤ ws.length := by omega
          obtain ⟨x0, rest, rfl⟩ : ∃ x0 rest, ws = x0 :: rest := by
            cases ws with
            | nil => simp at h1
            | cons x0 rest => exact ⟨x0, rest, rfl⟩
          obtain ⟨b9, o9, rfl, d0⟩ := HS6.out 0 h1
          simp only [List.getElem_cons_zero, Nat.add_zero] at d0
          have hld := cell_lt d0
          clear h0
          by_cases hp : x0 = pieceB
          · have gp : ((sb x0).toList == [112, 105, 101, 99, 101]) = true := lit_eq hp
            have HLN := hide (show lineL ⟨ps, js.map (·.jt)⟩ (x0 :: rest) = pieceL ⟨ps, js.map (·.jt)⟩ (x0 :: rest) by unfold lineL; dsimp only; rw [if_pos hp])
            have hsz := HSZ.out.piece (x0 :: rest)
            clear hp
            go_wp2_with fail
            refine (l2trk_any (w.heap.size + 1) (w.heap.size + 2) (some ⟨b9, o9, none⟩) c6 (x0 :: rest) pv jv ps js _ (by have := HSZ.out.pcs; dsimp only at this; omega) HWL.out HN5.out HS6.out (by omega)).mono ?_
            rintro e w6 ⟨pv', rfl, hN6, hK6⟩
            obtain ⟨c, N2, hPL⟩ : ∃ c N2, pieceL ⟨ps, js.map (·.jt)⟩ (x0 :: rest) = (c, N2) := ⟨_, _, rfl⟩
            rw [hPL] at hN6 hsz
            dsimp only at hN6 hsz
            have hEQ : N2 = ⟨N2.pcs, js.map (·.jt)⟩ := by rw [← hsz.2]
            have HEQ := hide hEQ
            have HSZ2 := hide (show NSz ⟨N2.pcs, js.map (·.jt)⟩ (i + 1) by rw [← hEQ]; exact hsz.1)
            have HPL := hide hPL
            have hlo : ∀ g, pv.ownBlock = some g → w.heap.size + 2 ≤ g := fun g e => (HN5.out.op.lt g e).1
            have HO6 := hide (owns_Ko HO5.out HN5.out.op (by decide) hK6 (by omega))
            have HT6 := hide (HT5.out.ko hK6 hlo)
            have HB6 := hide (below_ko HB5.out hK6 hlo)
            have HN6 := hide hN6
            simp only [hPL]
            clear hN6 hK6 hsz hlo hPL hEQ d0 hld HN5 HO5 HT5 HB5
            by_cases hc : c = 0
            · have gc : (c != 0) = false := by rw [hc]; rfl
              have HG3 : Hid (readG ⟨N2.pcs, js.map (·.jt)⟩ ((i + 1 : Nat) : Int) (lines.drop (i + 1)) = toldP s) := by
                show _ = _
                have h := HG2.out
                rw [HLN.out, HPL.out, if_neg (by dsimp only; rw [hc]; simp)] at h
                dsimp only at h
                rw [HEQ.out] at h
                simpa using h
              clear hc HG2
              go_wp2_with fail
              go_roundw
              case rel => exact ⟨i + 1, pv', jv, N2.pcs, js, by omega, by go_num, HSZ2, HN6, HG3, HO6, HT6, HB6⟩
              case measure => simp [intOf]; omega
            · have gc : (c != 0) = true := by rw [bne_iff_ne]; exact hc
              have HR := hide (show toldP s = (c, (i : Int) + 1, ⟨[], []⟩) by
                have h := HG2.out
                rw [HLN.out, HPL.out, if_pos (by dsimp only; exact hc)] at h
                exact h.symm)
              have hw1 : IntKind.i64.wrap ((i : Int) + 1) = (i : Int) + 1 := by rw [IntKind.wrap_i64]; omega
              have t0 := HT6.out.c0
              have t1 := HT6.out.c1
              have t2 := HT6.out.c2
              have t3 := HT6.out.c3
              have f0 := HT6.out.f 0
              have f1 := HT6.out.f 1
              have f2 := HT6.out.f 2
              have f3 := HT6.out.f 3
              have hlt6 := cell_lt t0
              have HBF := hide ((((HB6.out.setCell (p := ⟨w.heap.size, 0, none⟩) (Nat.le_refl _) (.int .i64 c)).setCell (p := ⟨w.heap.size, 1, none⟩) (Nat.le_refl _) (.int .i64 ((i : Int) + 1))).setCell (p := ⟨w.heap.size, 2, none⟩) (Nat.le_refl _) (.slice none 0 0)).setCell (p := ⟨w.heap.size, 3, none⟩) (Nat.le_refl _) (.slice none 0 0))
              clear hc HG2
              go_wp2_with fail
              exact bodyPost_ret (v := .agg #[.int .i64 c, .int .i64 ((i : Int) + 1), .slice none 0 0, .slice none 0 0]) (by simp [results, Tryz.results12, go_sem, t0, t1, t2, t3]) rfl (by rw [HR.out]; exact readPost_none HBF.out)
          · have gp : ((sb x0).toList == [112, 105, 101, 99, 101]) = false := lit_ne hp
            have HLN := hide (show lineL ⟨ps, js.map (·.jt)⟩ (x0 :: rest) = jointL ⟨ps, js.map (·.jt)⟩ (x0 :: rest) by unfold lineL; dsimp only; rw [if_neg hp])
            have hsz := HSZ.out.joint (x0 :: rest)
            clear hp
            go_wp2_with fail
            refine (l2join_any (w.heap.size + 1) (w.heap.size + 2) (some ⟨b9, o9, none⟩) c6 (x0 :: rest) pv jv ps js _ (by have := HSZ.out.pcs; dsimp only at this; omega) (by have := HSZ.out.jts; dsimp only at this; rw [List.length_map] at this; omega) HWL.out HN5.out HS6.out (by omega) h1 hc6 (fun j hj => by have := (HSZ.out.jn j hj).2; omega)).mono ?_
            rintro e w6 ⟨rfl, jv', js', hN6, hM6, hK6⟩
            obtain ⟨c, N2, hPL⟩ : ∃ c N2, jointL ⟨ps, js.map (·.jt)⟩ (x0 :: rest) = (c, N2) := ⟨_, _, rfl⟩
            rw [hPL] at hM6 hsz
            dsimp only at hM6 hsz
            have hEQ : N2 = ⟨ps, js'.map (·.jt)⟩ := by rw [hM6, ← show N2.pcs = ps from hsz.2]
            have HEQ := hide hEQ
            have HSZ2 := hide (show NSz ⟨ps, js'.map (·.jt)⟩ (i + 1) by rw [← hEQ]; exact hsz.1)
            have HPL := hide hPL
            have hlo : ∀ g, jv.ownBlock = some g → w.heap.size + 2 ≤ g := fun g e => (HN5.out.kr.own.lt g e).1
            have HO6 := hide (owns_Ko HO5.out HN5.out.kr.own (by decide) hK6 (by omega))
            have HT6 := hide (HT5.out.ko hK6 hlo)
            have HB6 := hide (below_ko HB5.out hK6 hlo)
            have HN6 := hide hN6
            simp only [hPL]
            clear hN6 hK6 hsz hlo hPL hEQ d0 hld HN5 HO5 HT5 HB5 hM6
            by_cases hc : c = 0
            · have gc : (c != 0) = false := by rw [hc]; rfl
              have HG3 : Hid (readG ⟨ps, js'.map (·.jt)⟩ ((i + 1 : Nat) : Int) (lines.drop (i + 1)) = toldP s) := by
                show _ = _
                have h := HG2.out
                rw [HLN.out, HPL.out, if_neg (by dsimp only; rw [hc]; simp)] at h
                dsimp only at h
                rw [HEQ.out] at h
                simpa using h
              clear hc HG2
              go_wp2_with fail
              go_roundw
              case rel => exact ⟨i + 1, pv, jv', ps, js', by omega, by go_num, HSZ2, HN6, HG3, HO6, HT6, HB6⟩
              case measure => simp [intOf]; omega
            · have gc : (c != 0) = true := by rw [bne_iff_ne]; exact hc
              have HR := hide (show toldP s = (c, (i : Int) + 1, ⟨[], []⟩) by
                have h := HG2.out
                rw [HLN.out, HPL.out, if_pos (by dsimp only; exact hc)] at h
                exact h.symm)
              have hw1 : IntKind.i64.wrap ((i : Int) + 1) = (i : Int) + 1 := by rw [IntKind.wrap_i64]; omega
              have t0 := HT6.out.c0
              have t1 := HT6.out.c1
              have t2 := HT6.out.c2
              have t3 := HT6.out.c3
              have f0 := HT6.out.f 0
              have f1 := HT6.out.f 1
              have f2 := HT6.out.f 2
              have f3 := HT6.out.f 3
              have hlt6 := cell_lt t0
              have HBF := hide ((((HB6.out.setCell (p := ⟨w.heap.size, 0, none⟩) (Nat.le_refl _) (.int .i64 c)).setCell (p := ⟨w.heap.size, 1, none⟩) (Nat.le_refl _) (.int .i64 ((i : Int) + 1))).setCell (p := ⟨w.heap.size, 2, none⟩) (Nat.le_refl _) (.slice none 0 0)).setCell (p := ⟨w.heap.size, 3, none⟩) (Nat.le_refl _) (.slice none 0 0))
              clear hc HG2
              go_wp2_with fail
              exact bodyPost_ret (v := .agg #[.int .i64 c, .int .i64 ((i : Int) + 1), .slice none 0 0, .slice none 0 0]) (by simp [results, Tryz.results12, go_sem, t0, t1, t2, t3]) rfl (by rw [HR.out]; exact readPost_none HBF.out)
      · obtain rfl : i = lines.length := by omega
        have hG := HG.out
        rw [List.drop_length, readG] at hG
        have HW := hide hG
        clear hG HG hlt hi
        obtain ⟨pa, pcap, rfl, hPA⟩ := pcs_at_of HN.out.op
        obtain ⟨ja, jcap, rfl, hJA⟩ := kjts_at_of HN.out.kr
        have n0 := HN.out.n0
        have n1 := HN.out.n1
        have hln := cell_lt n0
        have hszp := HSZ.out.pcs
        have hszj := HSZ.out.jts
        dsimp only at hszp hszj
        have HCL := hide (show Calls Tryz.prog 15 #[.agg #[.slice pa ps.length pcap, .slice ja js.length jcap]] w4 fun e w' => e = .returned (.agg #[.int .i64 (netOk ⟨ps, js.map (·.jt)⟩).1, .int .i64 (netOk ⟨ps, js.map (·.jt)⟩).2]) ∧ Below w4.heap.size w4 w' by
          have h := specNetOk_any pa ja ⟨ps, js.map (·.jt)⟩ pcap jcap w4 (by dsimp only; omega) (fun p hp => by have := HSZ.out.pn p hp; omega) (by dsimp only; omega) (fun j hj => by have := HSZ.out.jn j hj; omega) hPA hJA
          dsimp only at h
          rw [List.length_map] at h
          exact h)
        obtain ⟨f1, f2, hf⟩ : ∃ f1 f2, netOk ⟨ps, js.map (·.jt)⟩ = (f1, f2) := ⟨_, _, rfl⟩
        rw [hf] at HCL
        have HW2 := hide (show toldP s = if f1 = 5 then (7, f2, ⟨[], []⟩) else if f1 ≠ 0 then (6, 0, ⟨[], []⟩) else (0, 0, ⟨ps, js.map (·.jt)⟩) by rw [← HW.out, wholeR, hf])
        clear hf hPA hJA HW hszp hszj
        go_wp2_with fail
        refine HCL.out.mono ?_
        rintro e w6 ⟨rfl, hb6⟩
        have hA := chnB hb6 (bS0 w6 (.cells #[.int .i64 f1, .int .i64 f2] 37))
        have u0 := new_cell w6 #[.int .i64 f1, .int .i64 f2] 37 0 _ rfl
        have u1 := new_cell w6 #[.int .i64 f1, .int .i64 f2] 37 1 _ rfl
        have HN7 := hide (HN.out.later hA)
        have HT7 := hide (HT.out.later hA)
        have HB7 := hide (HB.out.trans (hA.mono HB.out.size))
        clear hb6 hA n0 n1 hln HCL HN HT HB
        go_upto_region 17 with fail
        generalize w6.alloc (.cells #[.int .i64 f1, .int .i64 f2] 37) = w7 at *
        generalize w6.heap.size = bf at *
        have n0 := HN7.out.n0
        have n1 := HN7.out.n1
        have hln := cell_lt n0
        have hlu := cell_lt u0
        have t0 := HT7.out.c0
        have t1 := HT7.out.c1
        have t2 := HT7.out.c2
        have t3 := HT7.out.c3
        have p0 := HT7.out.f 0
        have p1 := HT7.out.f 1
        have p2 := HT7.out.f 2
        have p3 := HT7.out.f 3
        have hlt7 := cell_lt t0
        by_cases h5 : f1 = 5
        · have g5 : (f1 == 5) = true := by rw [beq_iff_eq]; exact h5
          have HR := hide (show toldP s = (7, f2, ⟨[], []⟩) by rw [HW2.out, if_pos h5])
          clear h5
          have HBF := hide ((((HB7.out.setCell (p := ⟨w.heap.size, 0, none⟩) (Nat.le_refl _) (.int .i64 7)).setCell (p := ⟨w.heap.size, 1, none⟩) (Nat.le_refl _) (.int .i64 f2)).setCell (p := ⟨w.heap.size, 2, none⟩) (Nat.le_refl _) (.slice none 0 0)).setCell (p := ⟨w.heap.size, 3, none⟩) (Nat.le_refl _) (.slice none 0 0))
          go_wp2_with fail
          exact bodyPost_ret (v := .agg #[.int .i64 7, .int .i64 f2, .slice none 0 0, .slice none 0 0]) (by simp [results, Tryz.results12, go_sem, t0, t1, t2, t3]) rfl (by rw [HR.out]; exact readPost_none HBF.out)
        · have g5 : (f1 == 5) = false := by rw [beq_eq_false_iff_ne]; exact h5
          by_cases h0 : f1 = 0
          · have g0 : (f1 != 0) = false := by rw [h0]; rfl
            have HR := hide (show toldP s = (0, 0, ⟨ps, js.map (·.jt)⟩) by rw [HW2.out, if_neg h5, if_neg (by simpa using h0)])
            clear h5 h0
            have hm : Mid w.heap.size (w.heap.size + 1) w7 ((((w7.setCell ⟨w.heap.size, 0, none⟩ (.int .i64 0)).setCell ⟨w.heap.size, 1, none⟩ (.int .i64 0)).setCell ⟨w.heap.size, 2, none⟩ (.slice pa ps.length pcap)).setCell ⟨w.heap.size, 3, none⟩ (.slice ja js.length jcap)) := ((((Mid.refl _ _ _).setCell (Nat.le_refl _) (by omega) _).setCell (Nat.le_refl _) (by omega) _).setCell (Nat.le_refl _) (by omega) _).setCell (Nat.le_refl _) (by omega) _
            have HOP := hide (owns_mono (owns_mid HN7.out.op hm (by omega)) (show w.heap.size ≤ w.heap.size + 2 by omega))
            have HKR := hide (KR.low_base (HN7.out.kr.midLow hm (by omega)) (show w.heap.size ≤ w.heap.size + 2 by omega))
            have HBF := hide ((((HB7.out.setCell (p := ⟨w.heap.size, 0, none⟩) (Nat.le_refl _) (.int .i64 0)).setCell (p := ⟨w.heap.size, 1, none⟩) (Nat.le_refl _) (.int .i64 0)).setCell (p := ⟨w.heap.size, 2, none⟩) (Nat.le_refl _) (.slice pa ps.length pcap)).setCell (p := ⟨w.heap.size, 3, none⟩) (Nat.le_refl _) (.slice ja js.length jcap))
            clear hm
            go_wp2_with fail
            exact bodyPost_ret (v := .agg #[.int .i64 0, .int .i64 0, .slice pa ps.length pcap, .slice ja js.length jcap]) (by simp [results, Tryz.results12, go_sem, t0, t1, t2, t3]) rfl (by rw [HR.out]; exact ⟨_, _, js, rfl, HOP.out, HKR.out, rfl, HBF.out⟩)
          · have g0 : (f1 != 0) = true := by rw [bne_iff_ne]; exact h0
            have HR := hide (show toldP s = (6, 0, ⟨[], []⟩) by rw [HW2.out, if_neg h5, if_pos h0])
            clear h5 h0
            have HBF := hide ((((HB7.out.setCell (p := ⟨w.heap.size, 0, none⟩) (Nat.le_refl _) (.int .i64 6)).setCell (p := ⟨w.heap.size, 1, none⟩) (Nat.le_refl _) (.int .i64 0)).setCell (p := ⟨w.heap.size, 2, none⟩) (Nat.le_refl _) (.slice none 0 0)).setCell (p := ⟨w.heap.size, 3, none⟩) (Nat.le_refl _) (.slice none 0 0))
            go_wp2_with fail
            exact bodyPost_ret (v := .agg #[.int .i64 6, .int .i64 0, .slice none 0 0, .slice none 0 0]) (by simp [results, Tryz.results12, go_sem, t0, t1, t2, t3]) rfl (by rw [HR.out]; exact readPost_none HBF.out)
end Go.Proofs.YtcodpnkfpmjleaaGreatDoor

/- impl.jointWords. Own work. -/
import Derived.Test.YtokhbnlpifmjkaaDoorWnI
namespace Go.Proofs.YtokhbnlpifmjkaaDoor
open Go.RowKit
set_option maxHeartbeats 2000000

theorem infoStr : (Tryd.prog.info? 9).map (fun i => (i.zero, i.size, i.bytes)) = some (some (.string ⟨#[]⟩), 1, 16) := by kernel_rfl

theorem owns_later {w w' : World} {base : Nat} {e : TypeId} {size : Nat} {v : Value} {n : Nat} {xs : List Value} (h : w.ownsRow base e size v n xs) (hb : Below w.heap.size w w') : w'.ownsRow base e size v n xs := by
  refine ⟨h.1, ?_⟩
  rcases h.2 with h | ⟨g, cap, cur, hv, hbg, hg, rest⟩
  · exact .inl h
  · refine .inr ⟨g, cap, cur, hv, hbg, ?_, rest⟩
    rw [hb.block g (by
      rcases Nat.lt_or_ge g w.heap.size with h | h
      · exact h
      · rw [Array.getElem?_eq_none h] at hg; cases hg)]
    exact hg

def eWord (ps : List Pc) (e : Int × Int) : ByteArray := (pnm ps e.1 ++ ⟨#[46]⟩) ++ dtext e.2
def jWords (ps : List Pc) (j : Jt) : List ByteArray := (if 3 ≤ j.kind then [kw j.kind, j.name] else [kw j.kind]) ++ j.ends.map (eWord ps)

theorem keepJ {w1 w2 W0 : World} {b0 b1 b2 o0 o1 o2 : Nat} {x0 x1 x2 : Value} (hb : Below w1.heap.size w1 w2)
    (h : (w1.cell? ⟨b0, o0, none⟩ = some x0 ∧ w1.cell? ⟨b1, o1, none⟩ = some x1 ∧ w1.cell? ⟨b2, o2, none⟩ = some x2) ∧ Hid (Tab w1 ∧ Below W0.heap.size W0 w1)) :
    (w2.cell? ⟨b0, o0, none⟩ = some x0 ∧ w2.cell? ⟨b1, o1, none⟩ = some x1 ∧ w2.cell? ⟨b2, o2, none⟩ = some x2) ∧ Hid (Tab w2 ∧ Below W0.heap.size W0 w2) :=
  ⟨⟨cell_later' hb h.1.1, cell_later' hb h.1.2.1, cell_later' hb h.1.2.2⟩, h.2.out.1.later hb, h.2.out.2.trans (hb.mono h.2.out.2.size)⟩

theorem far {w1 w2 : World} {g b o : Nat} {x : Value} (hg : w1.grownBy w2 (some g)) (h : w1.cell? ⟨b, o, none⟩ = some x) (hne : b ≠ g) : w2.cell? ⟨b, o, none⟩ = some x := by
  rw [hg.cell_far ⟨b, o, none⟩ (cell_lt h) (by simpa using hne)]; exact h

theorem Tab.grown {w1 w2 W0 : World} {g : Nat} (h0 : Tab W0) (hb : Below W0.heap.size W0 w1) (hg : w1.grownBy w2 (some g)) (hW : W0.heap.size ≤ g) : Tab w2 :=
  h0.later (hb.grown hg hb.size (fun k e => by cases e; exact hW))

theorem keepA {w1 w2 W0 : World} {g b0 b1 b2 o0 o1 o2 : Nat} {x0 x1 x2 : Value} (hg : w1.grownBy w2 (some g)) (h0 : Tab W0) (hW : W0.heap.size ≤ g) (n0 : b0 ≠ g) (n1 : b1 ≠ g) (n2 : b2 ≠ g)
    (h : (w1.cell? ⟨b0, o0, none⟩ = some x0 ∧ w1.cell? ⟨b1, o1, none⟩ = some x1 ∧ w1.cell? ⟨b2, o2, none⟩ = some x2) ∧ Hid (Tab w1 ∧ Below W0.heap.size W0 w1)) :
    (w2.cell? ⟨b0, o0, none⟩ = some x0 ∧ w2.cell? ⟨b1, o1, none⟩ = some x1 ∧ w2.cell? ⟨b2, o2, none⟩ = some x2) ∧ Hid (Tab w2 ∧ Below W0.heap.size W0 w2) :=
  ⟨⟨far hg h.1.1 n0, far hg h.1.2.1 n1, far hg h.1.2.2 n2⟩, h0.grown h.2.out.2 hg hW, h.2.out.2.grown hg h.2.out.2.size (fun k e => by cases e; exact hW)⟩

theorem strs_of_owns {w : World} {base g n c : Nat} {xs : List ByteArray} (hl : xs.length = n) (h : w.ownsRow base 9 1 (.slice (some ⟨g, 0, none⟩) n c) n (xs.map Value.string)) : StrsAt w g xs := by
  intro j x hx
  have hj : j < xs.length := (List.getElem?_eq_some_iff.1 hx).1
  rw [Nat.zero_add, h.cellAt j (by omega), List.getElem?_map, hx]
  rfl

theorem owns_cap {w : World} {base g n c : Nat} {e : TypeId} {xs : List Value} (h : w.ownsRow base e 1 (.slice (some ⟨g, 0, none⟩) n c) n xs) : n ≤ c ∧ base ≤ g ∧ g < w.heap.size := by
  rcases h.2 with ⟨hv, _⟩ | ⟨g', cap, cur, hv, hb, hg, h1, _⟩
  · cases hv
  · cases hv
    refine ⟨h1, hb, ?_⟩
    rcases Nat.lt_or_ge g w.heap.size with h | h
    · exact h
    · rw [Array.getElem?_eq_none h] at hg; cases hg

set_option maxRecDepth 20000 in
theorem jointWords_any (a ea : Option Addr) (ps : List Pc) (cap ec : Nat) (jk : Int) (jn : ByteArray) (es : List (Int × Int)) (w : World)
    (hps : ∀ k (h : k < ps.length), ps[k].ok = true) (hkd : jk = 1 ∨ jk = 2 ∨ jk = 3 ∨ jk = 4) (hes : es.length ≤ 4)
    (hends : ∀ i (hi : i < es.length), ∃ p : Nat, es[i].1 = p ∧ p < ps.length ∧ 0 ≤ es[i].2 ∧ es[i].2 ≤ 1)
    (_hlp : ps.length ≤ 100) (hp : PcsAt w a ps) (he : EndsAt w ea es) (ht : Tab w) :
    Calls Tryd.prog 18 #[.slice a ps.length cap, .agg #[.int .i64 jk, .string jn, .slice ea es.length ec]] w fun e w' =>
    ∃ g c, e = .returned (.slice (some ⟨g, 0, none⟩) (jWords ps ⟨jk, jn, es⟩).length c) ∧ (jWords ps ⟨jk, jn, es⟩).length ≤ c ∧ StrsAt w' g (jWords ps ⟨jk, jn, es⟩) ∧ g < w'.heap.size ∧ Below w.heap.size w w' := by
  obtain ⟨i0, hi, hz0, hz1, hz2⟩ := info_parts infoStr
  have HI := hide hi
  have HZ0 := hide hz0
  have HZ1 := hide hz1
  have HZ2 := hide hz2
  have HPS := hide hps
  have HEN := hide hends
  have HP := hide hp
  have HE := hide he
  have HT := hide ht
  clear hi hz0 hz1 hz2 hps hends hp he ht
  obtain ⟨W0, hW0⟩ : ∃ W0, w.alloc (.cells #[.int .i64 jk, .string jn, .slice ea es.length ec] 43) = W0 := ⟨_, rfl⟩
  have hs0 : W0.heap.size = w.heap.size + 1 := by rw [← hW0]; simp
  have hB0 : Below w.heap.size w W0 := by rw [← hW0]; exact (Below.refl _ _).alloc (Nat.le_refl _) _
  have HJW := hide (show jWords ps ⟨jk, jn, es⟩ = (if 3 ≤ jk then [kw jk, jn] else [kw jk]) ++ es.map (eWord ps) from rfl)
  generalize jWords ps ⟨jk, jn, es⟩ = JW at HJW
  have b0 : W0.cell? ⟨w.heap.size, 0, none⟩ = some (.int .i64 jk) := by rw [← hW0]; exact new_cell _ _ _ 0 _ rfl
  have b1 : W0.cell? ⟨w.heap.size, 1, none⟩ = some (.string jn) := by rw [← hW0]; exact new_cell _ _ _ 1 _ rfl
  have b2 : W0.cell? ⟨w.heap.size, 2, none⟩ = some (.slice ea es.length ec) := by rw [← hW0]; exact new_cell _ _ _ 2 _ rfl
  rcases hkd with rfl | rfl | rfl | rfl
  focus
    obtain ⟨W1, hW1⟩ : ∃ W1, W0.alloc (.cells #[.string (kw 1)] 9) = W1 := ⟨_, rfl⟩
    have hB1 : Below W0.heap.size W0 W1 := by rw [← hW1]; exact (Below.refl _ _).alloc (Nat.le_refl _) _
    have HO1 : Hid (W1.ownsRow W0.heap.size 9 1 (.slice (some ⟨w.heap.size + 1, 0, none⟩) 1 1) 1 [.string (kw 1)]) := by rw [← hW1, ← hs0]; exact World.ownsRow_lit W0 #[.string (kw 1)] 1 (Nat.le_refl _) (by decide) rfl
    have b01 := cell_later' hB1 b0
    have b11 := cell_later' hB1 b1
    have b21 := cell_later' hB1 b2
    have hm := mn_1
    go_enter Tryd.func18, Tryd.ntmps18
    go_wp2_with fail
    refine (jointWord_any 1 (by omega) _).mono ?_
    rintro e w1 ⟨rfl, rfl⟩
    go_wp2_with fail
    refine (kindOf_1 _).mono ?_
    rintro e w1 ⟨rfl, rfl⟩
    go_wp2_with fail
    refine (named_1 _).mono ?_
    rintro e w1 ⟨rfl, hb1⟩
    have b02 := cell_later' hb1 b01
    have b12 := cell_later' hb1 b11
    have b22 := cell_later' hb1 b21
    have HB2 := hide (hB1.trans (hb1.mono hB1.size))
    have HO2 := hide (owns_later HO1.out hb1)
    clear b01 b11 b21 hm hW1 hB1 HO1 hb1
    go_wp2_with fail
    obtain ⟨x0, HX0⟩ : ∃ x0 : List ByteArray, Hid (x0 = [kw 1]) := ⟨_, rfl⟩
    obtain ⟨m0, Hm0⟩ : ∃ m0 : Nat, Hid (m0 = 1) := ⟨_, rfl⟩
    have hm0 : m0 ≤ 2 := by rw [Hm0.out]; omega
    have HIF := hide (show (if (3 : Int) ≤ 1 then [kw 1, jn] else [kw 1]) = x0 by rw [HX0.out]; rfl)
    have HX1 := hide (show x0.map Value.string = [.string (kw 1)] by rw [HX0.out]; rfl)
    have HX2 := hide (show x0.length = m0 by rw [HX0.out, Hm0.out]; rfl)
  rotate_left
  focus
    obtain ⟨W1, hW1⟩ : ∃ W1, W0.alloc (.cells #[.string (kw 2)] 9) = W1 := ⟨_, rfl⟩
    have hB1 : Below W0.heap.size W0 W1 := by rw [← hW1]; exact (Below.refl _ _).alloc (Nat.le_refl _) _
    have HO1 : Hid (W1.ownsRow W0.heap.size 9 1 (.slice (some ⟨w.heap.size + 1, 0, none⟩) 1 1) 1 [.string (kw 2)]) := by rw [← hW1, ← hs0]; exact World.ownsRow_lit W0 #[.string (kw 2)] 1 (Nat.le_refl _) (by decide) rfl
    have b01 := cell_later' hB1 b0
    have b11 := cell_later' hB1 b1
    have b21 := cell_later' hB1 b2
    have hm := mn_2
    go_enter Tryd.func18, Tryd.ntmps18
    go_wp2_with fail
    refine (jointWord_any 2 (by omega) _).mono ?_
    rintro e w1 ⟨rfl, rfl⟩
    go_wp2_with fail
    refine (kindOf_2 _).mono ?_
    rintro e w1 ⟨rfl, rfl⟩
    go_wp2_with fail
    refine (named_2 _).mono ?_
    rintro e w1 ⟨rfl, hb1⟩
    have b02 := cell_later' hb1 b01
    have b12 := cell_later' hb1 b11
    have b22 := cell_later' hb1 b21
    have HB2 := hide (hB1.trans (hb1.mono hB1.size))
    have HO2 := hide (owns_later HO1.out hb1)
    clear b01 b11 b21 hm hW1 hB1 HO1 hb1
    go_wp2_with fail
    obtain ⟨x0, HX0⟩ : ∃ x0 : List ByteArray, Hid (x0 = [kw 2]) := ⟨_, rfl⟩
    obtain ⟨m0, Hm0⟩ : ∃ m0 : Nat, Hid (m0 = 1) := ⟨_, rfl⟩
    have hm0 : m0 ≤ 2 := by rw [Hm0.out]; omega
    have HIF := hide (show (if (3 : Int) ≤ 2 then [kw 2, jn] else [kw 2]) = x0 by rw [HX0.out]; rfl)
    have HX1 := hide (show x0.map Value.string = [.string (kw 2)] by rw [HX0.out]; rfl)
    have HX2 := hide (show x0.length = m0 by rw [HX0.out, Hm0.out]; rfl)
  rotate_left
  focus
    obtain ⟨W1, hW1⟩ : ∃ W1, W0.alloc (.cells #[.string (kw 3)] 9) = W1 := ⟨_, rfl⟩
    have hB1 : Below W0.heap.size W0 W1 := by rw [← hW1]; exact (Below.refl _ _).alloc (Nat.le_refl _) _
    have HO1 : Hid (W1.ownsRow W0.heap.size 9 1 (.slice (some ⟨w.heap.size + 1, 0, none⟩) 1 1) 1 [.string (kw 3)]) := by rw [← hW1, ← hs0]; exact World.ownsRow_lit W0 #[.string (kw 3)] 1 (Nat.le_refl _) (by decide) rfl
    have b01 := cell_later' hB1 b0
    have b11 := cell_later' hB1 b1
    have b21 := cell_later' hB1 b2
    have hm := mn_3
    go_enter Tryd.func18, Tryd.ntmps18
    go_wp2_with fail
    refine (jointWord_any 3 (by omega) _).mono ?_
    rintro e w1 ⟨rfl, rfl⟩
    go_wp2_with fail
    refine (kindOf_3 _).mono ?_
    rintro e w1 ⟨rfl, rfl⟩
    go_wp2_with fail
    refine (named_3 _).mono ?_
    rintro e w1 ⟨rfl, hb1⟩
    have b02 := cell_later' hb1 b01
    have b12 := cell_later' hb1 b11
    have b22 := cell_later' hb1 b21
    have HB2 := hide (hB1.trans (hb1.mono hB1.size))
    have HO2 := hide (owns_later HO1.out hb1)
    clear b01 b11 b21 hm hW1 hB1 HO1 hb1
    go_wp2_with (first
      | (at_builtin; (refine wpList_append_lies _ rfl _ _ _ rfl W0.heap.size 9 i0 _ 1 16 Tryd.underlying44 HI.out HZ0.out HZ1.out HZ2.out rfl (by omega) _ 1 [.string (kw 3)] rfl (HO2.out.alloc _) ⟨w1.heap.size, 0, none⟩ 1 1 [.string jn] rfl rfl (World.news_of_block (cs := #[.string jn]) (heap_alloc_new w1 _)) (by simp [Value.oneCell']) (by omega) (by decide) (by omega) (by have := HB2.out.size; simp; omega) _ rfl ?_); intro g1 c1 w2 hown2 hgrow2 _ hlt2; have b03 := far (g := w.heap.size + 1) hgrow2 (cell_later' ((Below.refl _ _).alloc (Nat.le_refl _) _) b02) (by omega); have b23 := far (g := w.heap.size + 1) hgrow2 (cell_later' ((Below.refl _ _).alloc (Nat.le_refl _) _) b22) (by omega)))
    have HB3 := hide ((HB2.out.alloc HB2.out.size (.cells #[.string jn] 9)).grown (row := some (w.heap.size + 1)) hgrow2 (by have := HB2.out.size; simp; omega) (fun k e => by cases e; omega))
    have HO3 := hide hown2
    clear b02 b12 b22 HB2 HO2 hown2 hgrow2 hlt2
    have HB2 := HB3
    have HO2 := HO3
    clear HB3 HO3
    obtain ⟨x0, HX0⟩ : ∃ x0 : List ByteArray, Hid (x0 = [kw 3, jn]) := ⟨_, rfl⟩
    obtain ⟨m0, Hm0⟩ : ∃ m0 : Nat, Hid (m0 = 2) := ⟨_, rfl⟩
    have hm0 : m0 ≤ 2 := by rw [Hm0.out]; omega
    have HIF := hide (show (if (3 : Int) ≤ 3 then [kw 3, jn] else [kw 3]) = x0 by rw [HX0.out]; rfl)
    have HX1 := hide (show x0.map Value.string = [.string (kw 3), .string jn] by rw [HX0.out]; rfl)
    have HX2 := hide (show x0.length = m0 by rw [HX0.out, Hm0.out]; rfl)
  rotate_left
  focus
    obtain ⟨W1, hW1⟩ : ∃ W1, W0.alloc (.cells #[.string (kw 4)] 9) = W1 := ⟨_, rfl⟩
    have hB1 : Below W0.heap.size W0 W1 := by rw [← hW1]; exact (Below.refl _ _).alloc (Nat.le_refl _) _
    have HO1 : Hid (W1.ownsRow W0.heap.size 9 1 (.slice (some ⟨w.heap.size + 1, 0, none⟩) 1 1) 1 [.string (kw 4)]) := by rw [← hW1, ← hs0]; exact World.ownsRow_lit W0 #[.string (kw 4)] 1 (Nat.le_refl _) (by decide) rfl
    have b01 := cell_later' hB1 b0
    have b11 := cell_later' hB1 b1
    have b21 := cell_later' hB1 b2
    have hm := mn_4
    go_enter Tryd.func18, Tryd.ntmps18
    go_wp2_with fail
    refine (jointWord_any 4 (by omega) _).mono ?_
    rintro e w1 ⟨rfl, rfl⟩
    go_wp2_with fail
    refine (kindOf_4 _).mono ?_
    rintro e w1 ⟨rfl, rfl⟩
    go_wp2_with fail
    refine (named_4 _).mono ?_
    rintro e w1 ⟨rfl, hb1⟩
    have b02 := cell_later' hb1 b01
    have b12 := cell_later' hb1 b11
    have b22 := cell_later' hb1 b21
    have HB2 := hide (hB1.trans (hb1.mono hB1.size))
    have HO2 := hide (owns_later HO1.out hb1)
    clear b01 b11 b21 hm hW1 hB1 HO1 hb1
    go_wp2_with (first
      | (at_builtin; (refine wpList_append_lies _ rfl _ _ _ rfl W0.heap.size 9 i0 _ 1 16 Tryd.underlying44 HI.out HZ0.out HZ1.out HZ2.out rfl (by omega) _ 1 [.string (kw 4)] rfl (HO2.out.alloc _) ⟨w1.heap.size, 0, none⟩ 1 1 [.string jn] rfl rfl (World.news_of_block (cs := #[.string jn]) (heap_alloc_new w1 _)) (by simp [Value.oneCell']) (by omega) (by decide) (by omega) (by have := HB2.out.size; simp; omega) _ rfl ?_); intro g1 c1 w2 hown2 hgrow2 _ hlt2; have b03 := far (g := w.heap.size + 1) hgrow2 (cell_later' ((Below.refl _ _).alloc (Nat.le_refl _) _) b02) (by omega); have b23 := far (g := w.heap.size + 1) hgrow2 (cell_later' ((Below.refl _ _).alloc (Nat.le_refl _) _) b22) (by omega)))
    have HB3 := hide ((HB2.out.alloc HB2.out.size (.cells #[.string jn] 9)).grown (row := some (w.heap.size + 1)) hgrow2 (by have := HB2.out.size; simp; omega) (fun k e => by cases e; omega))
    have HO3 := hide hown2
    clear b02 b12 b22 HB2 HO2 hown2 hgrow2 hlt2
    have HB2 := HB3
    have HO2 := HO3
    clear HB3 HO3
    obtain ⟨x0, HX0⟩ : ∃ x0 : List ByteArray, Hid (x0 = [kw 4, jn]) := ⟨_, rfl⟩
    obtain ⟨m0, Hm0⟩ : ∃ m0 : Nat, Hid (m0 = 2) := ⟨_, rfl⟩
    have hm0 : m0 ≤ 2 := by rw [Hm0.out]; omega
    have HIF := hide (show (if (3 : Int) ≤ 4 then [kw 4, jn] else [kw 4]) = x0 by rw [HX0.out]; rfl)
    have HX1 := hide (show x0.map Value.string = [.string (kw 4), .string jn] by rw [HX0.out]; rfl)
    have HX2 := hide (show x0.length = m0 by rw [HX0.out, Hm0.out]; rfl)
  rotate_left
  all_goals
    have HTW := hide (HT.out.later hB0)
    go_loopw [5, 7, 24] (fun v _ i wr => ∃ (t g c : Nat), t ≤ es.length ∧ i = .int .i64 t ∧ v = .slice (some ⟨g, 0, none⟩) (m0 + t) c ∧ Hid (wr.ownsRow W0.heap.size 9 1 (.slice (some ⟨g, 0, none⟩) (m0 + t) c) (m0 + t) ((x0 ++ (es.take t).map (eWord ps)).map Value.string)) ∧ Below W0.heap.size W0 wr) (fun _ _ i _ => es.length - (intOf i).toNat)
    case atStart =>
      refine ⟨0, _, _, Nat.zero_le _, rfl, (by rw [Hm0.out]), ?_, HB2.out⟩
      show World.ownsRow _ _ _ _ _ _ _
      rw [Hm0.out, List.take_zero, List.map_nil, List.append_nil, HX1.out]
      exact HO2.out
    case round =>
      obtain ⟨t, g, c, ht, rfl, rfl, HOw, hB⟩ := hrel
      have hBw := hB0.trans (hB.mono hB0.size)
      have HTab := hide (HTW.out.later hB)
      have hgc := owns_cap HOw.out
      by_cases hti : t < es.length
      · obtain ⟨b2, off2, rfl, d0, d1⟩ := (HE.out.later hBw) t hti
        obtain ⟨pi, hp1, hp2, hsd0, hsd1⟩ := HEN.out t hti
        obtain ⟨bp, op, rfl, y0, _, _, _⟩ := HP.out pi hp2
        have hbp := cell_lt y0
        have y1 := cell_later' hBw y0
        have hpb := pc_ok_bounds (HPS.out pi hp2)
        have HET := hide (show eWord ps es[t] = (ps[pi].name ++ ⟨#[46]⟩) ++ dtext es[t].2 by
          unfold eWord
          rw [hp1, pnm_eq hp2])
        have HTK := hide (show (es.take (t + 1)).map (eWord ps) = (es.take t).map (eWord ps) ++ [eWord ps es[t]] by
          rw [List.take_succ_eq_append_getElem hti, List.map_append]; rfl)
        have hdt := dtext_size es[t].2 (by omega)
        generalize es[t].2 = sd at d1 hsd0 hsd1 HET hdt
        rw [hp1] at d0
        have hi0 : (0 : Int) ≤ (pi : Int) := by omega
        have hi1 : (pi : Int) < (ps.length : Int) := by omega
        have q1 : (9223372036854775807 < ps[pi].name.size + 1) = False := eq_false (by omega)
        have q2 : (9223372036854775807 < ps[pi].name.size + 1 + (dtext sd).size) = False := eq_false (by omega)
        have hml : m0 + t + 1 ≤ maxLen := by unfold maxLen; omega
        have hAD : Below wr.heap.size wr ((wr.alloc (.cells #[.int .i64 pi, .int .i64 sd] 46)).drew) := ((Below.refl _ _).alloc (Nat.le_refl _) _).drew
        go_wp2_with fail
        go_region_held3 (fun w' => (w'.cell? ⟨wr.heap.size, 0, none⟩ = some (.int .i64 pi) ∧ w'.cell? ⟨wr.heap.size, 1, none⟩ = some (.int .i64 sd) ∧ w'.cell? ⟨bp, op + pi * 4, none⟩ = some (.string ps[pi].name)) ∧ Hid (Tab w' ∧ Below W0.heap.size W0 w'))
          (first
            | (exact ⟨⟨by simp [go_sem], by simp [go_sem], cell_later' hAD y1⟩, HTab.out.later hAD, hB.trans (hAD.mono hB.size)⟩)
            | (exact keepJ (by assumption) (by assumption))
            | (exact keepJ ((Below.refl _ _).alloc (Nat.le_refl _) _) (by assumption))
            | (exact keepA (g := g) hgrow HTW.out hgc.2.1 (by omega) (by omega) (by omega) (by assumption)))
          (first
            | (go_at_call 35; refine (itoa_any _ _ ?_ ?_ (heldTab (by assumption))).mono ?_; omega; omega; rintro e w' ⟨rfl, hbc⟩)
            | (refine step_append_lies _ (by rfl) _ _ _ (by rfl) W0.heap.size 9 i0 _ 1 16 Tryd.underlying44 HI.out HZ0.out HZ1.out HZ2.out rfl (by omega) _ (m0 + t) _ (by rfl) ((owns_later (owns_later HOw.out hAD) hbc).alloc _) ⟨_, 0, none⟩ 1 1 [.string _] (by rfl) (by rfl) (World.news_of_block (heap_alloc_new _ _)) (by simp [Value.oneCell']) (by omega) hml (by omega) (Nat.le_trans hB.size (Nat.le_trans hAD.size (Nat.le_trans hbc.size (by simp)))) _ rfl ?_; intro g2 c2 w2 hown2 hgrow _ hlt2))
        rename_i hH
        have hB3 := hH.2.out.2
        have HO3 := hide hown2
        clear hown2 hgrow
        go_wp2_with fail
        refine ⟨⟨t + 1, g2, c2, by omega, by go_num, rfl, ?_, hB3⟩, by simp [intOf]; omega⟩
        show World.ownsRow _ _ _ _ _ _ _
        rw [HTK.out, HET.out, ← List.append_assoc, List.map_append]
        exact HO3.out
      · obtain rfl : t = es.length := by omega
        go_wp2_with fail
        go_ret
        have hJL : JW.length = m0 + es.length := by rw [HJW.out, HIF.out, List.length_append, List.length_map, HX2.out]
        have HOe := HOw.out
        rw [List.take_length, ← HIF.out, ← HJW.out] at HOe
        rw [← hJL] at HOe hgc
        exact ⟨g, c, by rw [hJL]; rfl, hgc.1, strs_of_owns rfl HOe, hgc.2.2, hBw⟩
end Go.Proofs.YtokhbnlpifmjkaaDoor

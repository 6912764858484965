/- The laws' own helpers on paths (in part written by gen_lht.py out of those on ends). Own work. -/
import Derived.Test.YtncanhbmbjoamacGreatLhS
import Derived.Test.YtncanhbmbjoamacGreatLwPl
namespace Go.Proofs.YtncanhbmbjoamacGreat
open Go.RowKit
set_option maxHeartbeats 4000000

theorem toLie_any (p s : Int) (w : World) :
    Calls Tryz.prog 57 #[.agg #[.int .i64 p, .int .i64 s]] w fun e w' =>
    e = .returned (.agg #[.int .i64 p, .int .i64 s]) ∧ Below w.heap.size w w' := by
  go_enter Tryz.func57, Tryz.ntmps57
  go_wp2
  exact bodyPost_ret (v := .agg #[.int .i64 p, .int .i64 s]) (by simp [results, Tryz.results57, go_sem]) rfl ⟨rfl, (((Below.refl _ _).alloc (Nat.le_refl _) _).alloc (by simp) _).alloc (by simp; omega) _⟩

theorem toLieS_any (a : Option Addr) (es : List (Int × Int)) (cap : Nat) (w : World) (hn : es.length ≤ 1048576) (hp : EndsAt w a es) :
    Calls Tryz.prog 32 #[.slice a es.length cap] w fun e w' =>
    e = .returned (.slice (some ⟨w.heap.size, 0, none⟩) es.length es.length) ∧ Row w' w.heap.size 108 (es.length * 2) ∧ EndsAt w' (some ⟨w.heap.size, 0, none⟩) es ∧ Below w.heap.size w w' := by
  have HP := hide hp
  clear hp
  have hmk := run_make_rows (P := Tryz.prog) 42 108 _ _ _ Tryz.underlying42 info_Lie es.length (by omega) (by omega)
  go_enter Tryz.func32, Tryz.ntmps32
  go_wp2
  go_loopw [4] (fun i wr => ∃ (k : Nat) (f : Nat → Value), k ≤ es.length ∧ i = .int .i64 k ∧ wr.rowIs w.heap.size 108 (es.length * 2) f ∧ (∀ j (_ : j < k) (hj : j < es.length), f (j * 2) = .int .i64 es[j].1 ∧ f (j * 2 + 1) = .int .i64 es[j].2) ∧ Below w.heap.size w wr) (fun i _ => es.length - (intOf i).toNat)
  case atStart =>
    obtain ⟨f, hf⟩ := rowIs_made' w #[.int .i64 0, .int .i64 0] (es.length * 2) 108
    exact ⟨0, f, Nat.zero_le _, rfl, hf, by intro j hj; omega, (Below.refl _ _).alloc (Nat.le_refl _) _⟩
  case round =>
    obtain ⟨k, f, hk, rfl, hf, hfs, hb⟩ := hrel
    have HF := hide hf
    have HFS := hide hfs
    clear hf hfs hmk
    by_cases hlt : k < es.length
    · obtain ⟨b, off, rfl, c0, c1⟩ := (EndsAt.later HP.out hb) k hlt
      go_wp2_with fail
      refine (toLie_any _ _ _).mono ?_
      rintro e w1 ⟨rfl, hb1⟩
      have hb2 := hb.trans (hb1.mono hb.size)
      have hf1 := HF.out.of_block (hb1.block _ HF.out.lt)
      have d0 := hf1.cell (i := k * 2) (by omega)
      have d1 := hf1.cell (i := k * 2 + 1) (by omega)
      have z0 := hf1.frozen (k * 2)
      have z1 := hf1.frozen (k * 2 + 1)
      have HF1 := hide hf1
      clear hf1
      go_wp2_with fail
      go_roundw
      case rel =>
        refine ⟨k + 1, _, by omega, by go_num, (HF1.out.set _ _).set _ _, ?_, (hb2.setCell (by simp) _).setCell (by simp) _⟩
        intro j hj hj'
        rcases Nat.lt_succ_iff_lt_or_eq.mp hj with h | h
        · have := HFS.out j h hj'
          constructor
          · rw [if_neg (by omega), if_neg (by omega)]; exact this.1
          · rw [if_neg (by omega), if_neg (by omega)]; exact this.2
        · subst h
          constructor
          · rw [if_neg (by omega), if_pos rfl]
          · rw [if_pos rfl]
      case measure => simp [intOf]; omega
    · go_wp2_with fail
      go_ret
      refine ⟨rfl, ⟨f, HF.out⟩, ?_, hb⟩
      intro j hj
      have := HFS.out j (by omega) hj
      refine ⟨_, 0, rfl, ?_, ?_⟩
      · rw [Nat.zero_add, HF.out.cell (by omega), this.1]
      · rw [Nat.zero_add, HF.out.cell (by omega), this.2]

theorem szLieS_any (a : Option Addr) (n cap : Nat) (left : Int) (w : World) (hn : n ≤ maxLen) (h0 : 0 ≤ left) (h1 : left ≤ 1048576) :
    Calls Tryz.prog 21 #[.slice a n cap, .int .i64 left] w fun e w' =>
    ∃ r : Int, e = .returned (.int .i64 r) ∧ (0 ≤ r → n ≤ 1048576) ∧ Below w.heap.size w w' := by
  unfold maxLen at hn
  go_enter Tryz.func21, Tryz.ntmps21
  go_wp2
  all_goals go_ret
  · exact ⟨-1, rfl, by omega, Below.refl _ _⟩
  · exact ⟨_, rfl, by omega, Below.refl _ _⟩

theorem szStepS_le (a : Option Addr) (n cap : Nat) (left : Int) (w : World) (hn : n ≤ maxLen) (h0 : 0 ≤ left) (h1 : left ≤ 1048576) :
    Calls Tryz.prog 20 #[.slice a n cap, .int .i64 left] w fun e w' =>
    ∃ r : Int, e = .returned (.int .i64 r) ∧ r ≤ 1048576 ∧ (0 ≤ r → n ≤ 1048576) ∧ Below w.heap.size w w' := by
  unfold maxLen at hn
  go_enter Tryz.func20, Tryz.ntmps20
  go_wp2
  all_goals go_ret
  · exact ⟨-1, rfl, by omega, by omega, Below.refl _ _⟩
  · exact ⟨_, rfl, by omega, by omega, Below.refl _ _⟩

theorem szPath_any (z zl : Option Addr) (n k zc zlc : Nat) (ok : Bool) (far left : Int) (w : World) (hn : n ≤ maxLen) (hk : k ≤ maxLen) (h0 : 0 ≤ left) (h1 : left ≤ 1048576) :
    Calls Tryz.prog 5 #[.agg #[.bool ok, .int .i64 far, .slice z n zc, .slice zl k zlc], .int .i64 left] w fun e w' =>
    ∃ r : Int, e = .returned (.int .i64 r) ∧ (0 ≤ r → n ≤ 1048576 ∧ k ≤ 1048576) ∧ Below w.heap.size w w' := by
  have HN := hide (And.intro hn hk)
  clear hn hk
  have hA := (Below.refl w.heap.size w).alloc (Nat.le_refl _) (.cells #[.bool ok, .int .i64 far, .slice z n zc, .slice zl k zlc] 29)
  have t3 := new_cell w #[.bool ok, .int .i64 far, .slice z n zc, .slice zl k zlc] 29 3 _ rfl
  go_enter Tryz.func5, Tryz.ntmps5
  go_wp2_with fail
  refine (szStepS_le z n zc left _ HN.out.1 h0 h1).mono ?_
  rintro e w1 ⟨r, rfl, hr1, hr2, hb1⟩
  have t3 := cell_later' hb1 t3
  have hB := hA.trans (hb1.mono hA.size)
  clear hb1 hA
  by_cases hr : r < 0
  · go_wp2_with fail
    go_ret
    exact ⟨-1, rfl, by omega, hB⟩
  have hrr : decide (r < 0) = false := by rw [decide_eq_false_iff_not]; exact hr
  have HR2 := hide (hr2 (by omega))
  clear hr2
  go_wp2_with fail
  refine (szLieS_any zl k zlc r _ HN.out.2 (by omega) hr1).mono ?_
  rintro e w2 ⟨r2, rfl, hr3, hb2⟩
  have hB2 := hB.trans (hb2.mono hB.size)
  have HR3 := hide hr3
  clear hb2 hB hr3
  by_cases hr4 : r2 < 0
  · go_wp2_with fail
    go_ret
    exact ⟨-1, rfl, by omega, hB2⟩
  have hrr2 : decide (r2 < 0) = false := by rw [decide_eq_false_iff_not]; exact hr4
  go_wp2_with fail
  go_ret
  exact ⟨_, rfl, fun h => ⟨HR2.out, HR3.out h⟩, hB2⟩

/-- A path that a call has made. -/
structure PathOwn (B : Nat) (w : World) (b1 b2 : Nat) (ss ls : List (Int × Int)) : Prop where
  lo : B ≤ b1
  ne : b1 < b2
  hi : b2 < w.heap.size
  r1 : Row w b1 62 (ss.length * 2)
  r2 : Row w b2 108 (ls.length * 2)
  s1 : EndsAt w (some ⟨b1, 0, none⟩) ss
  s2 : EndsAt w (some ⟨b2, 0, none⟩) ls
theorem PathOwn.later {B : Nat} {w w' : World} {b1 b2 : Nat} {ss ls : List (Int × Int)} (h : PathOwn B w b1 b2 ss ls) (hb : Below w.heap.size w w') : PathOwn B w' b1 b2 ss ls :=
  ⟨h.lo, h.ne, Nat.lt_of_lt_of_le h.hi hb.size, h.r1.later hb, h.r2.later hb, h.s1.later hb, h.s2.later hb⟩

theorem row_set {w : World} {b1 b o m : Nat} {T : TypeId} (h : Row w b1 T m) (hne : b ≠ b1) (v : Value) : Row (w.setCell ⟨b, o, none⟩ v) b1 T m := by
  obtain ⟨f, hf⟩ := h
  exact ⟨f, hf.of_block (Below.heap_setCell w ⟨b, o, none⟩ v b1 (fun e => hne e.symm))⟩
theorem ends_set {w : World} {z : Option Addr} {ss : List (Int × Int)} {b o : Nat} (h : EndsAt w z ss) (hne : ∀ c i, z = some ⟨c, i, none⟩ → b ≠ c) (v : Value) : EndsAt (w.setCell ⟨b, o, none⟩ v) z ss := by
  intro k hk
  obtain ⟨c, i, e, h1, h2⟩ := h k hk
  have := hne c i e
  refine ⟨c, i, e, ?_, ?_⟩
  · rw [World.cell?_setCell_far w ⟨b, o, none⟩ ⟨c, i + k * 2, none⟩ v this]; exact h1
  · rw [World.cell?_setCell_far w ⟨b, o, none⟩ ⟨c, i + k * 2 + 1, none⟩ v this]; exact h2
theorem PathOwn.set {B : Nat} {w : World} {b1 b2 b o : Nat} {ss ls : List (Int × Int)} (h : PathOwn B w b1 b2 ss ls) (hb : b < b1) (v : Value) : PathOwn B (w.setCell ⟨b, o, none⟩ v) b1 b2 ss ls :=
  ⟨h.lo, h.ne, by simp; exact h.hi, row_set h.r1 (by omega) v, row_set h.r2 (by have := h.ne; omega) v, ends_set h.s1 (fun c i e => by cases e; omega) v, ends_set h.s2 (fun c i e => by cases e; have := h.ne; omega) v⟩
/-- While a path is made. -/
structure TP (w wr : World) (ok : Bool) (far : Int) (vz vl v2 v3 : Value) : Prop where
  a2 : wr.cell? ⟨w.heap.size, 2, none⟩ = some vz
  a3 : wr.cell? ⟨w.heap.size, 3, none⟩ = some vl
  r0 : wr.cell? ⟨w.heap.size + 1, 0, none⟩ = some (.bool false)
  r1 : wr.cell? ⟨w.heap.size + 1, 1, none⟩ = some (.int .i64 0)
  r2 : wr.cell? ⟨w.heap.size + 1, 2, none⟩ = some (.slice none 0 0)
  r3 : wr.cell? ⟨w.heap.size + 1, 3, none⟩ = some (.slice none 0 0)
  o0 : wr.cell? ⟨w.heap.size + 1 + 1, 0, none⟩ = some (.bool ok)
  o1 : wr.cell? ⟨w.heap.size + 1 + 1, 1, none⟩ = some (.int .i64 far)
  o2 : wr.cell? ⟨w.heap.size + 1 + 1, 2, none⟩ = some v2
  o3 : wr.cell? ⟨w.heap.size + 1 + 1, 3, none⟩ = some v3
  fr : ∀ i, wr.frozen? ⟨w.heap.size + 1, i, none⟩ = false
  fo : ∀ i, wr.frozen? ⟨w.heap.size + 1 + 1, i, none⟩ = false
  size : w.heap.size + 1 + 1 < wr.heap.size
  below : Below w.heap.size w wr
theorem TP.later {w w1 w2 : World} {ok : Bool} {far : Int} {vz vl v2 v3 : Value} (h : TP w w1 ok far vz vl v2 v3) (hb : Below w1.heap.size w1 w2) : TP w w2 ok far vz vl v2 v3 :=
  ⟨cell_later' hb h.a2, cell_later' hb h.a3, cell_later' hb h.r0, cell_later' hb h.r1, cell_later' hb h.r2, cell_later' hb h.r3, cell_later' hb h.o0, cell_later' hb h.o1, cell_later' hb h.o2, cell_later' hb h.o3, fun i => by rw [hb.frozen (p := ⟨w.heap.size + 1, i, none⟩) (cell_lt h.r0)]; exact h.fr i, fun i => by rw [hb.frozen (p := ⟨w.heap.size + 1 + 1, i, none⟩) (cell_lt h.o0)]; exact h.fo i, Nat.lt_of_lt_of_le h.size hb.size, h.below.trans (hb.mono h.below.size)⟩
theorem TP.set2 {w w1 : World} {ok : Bool} {far : Int} {vz vl v2 v3 : Value} (h : TP w w1 ok far vz vl v2 v3) (v : Value) : TP w (w1.setCell ⟨w.heap.size + 1 + 1, 2, none⟩ v) ok far vz vl v v3 := by
  have e : ∀ b i, b < w.heap.size + 1 + 1 → (w1.setCell ⟨w.heap.size + 1 + 1, 2, none⟩ v).cell? ⟨b, i, none⟩ = w1.cell? ⟨b, i, none⟩ := fun b i hb => World.cell?_setCell_far w1 ⟨w.heap.size + 1 + 1, 2, none⟩ ⟨b, i, none⟩ v (by show w.heap.size + 1 + 1 ≠ b; omega)
  exact ⟨(e _ _ (by omega)).trans h.a2, (e _ _ (by omega)).trans h.a3, (e _ _ (by omega)).trans h.r0, (e _ _ (by omega)).trans h.r1, (e _ _ (by omega)).trans h.r2, (e _ _ (by omega)).trans h.r3, by simp [go_sem, h.o0], by simp [go_sem, h.o1], by simp [go_sem, h.o2], by simp [go_sem, h.o3], fun i => by rw [World.frozen?_setCell]; exact h.fr i, fun i => by rw [World.frozen?_setCell]; exact h.fo i, by simp; exact h.size, h.below.setCell (by show w.heap.size ≤ w.heap.size + 1 + 1; omega) _⟩
theorem toPath_any (z zl : Option Addr) (ss ls : List (Int × Int)) (zc zlc : Nat) (ok : Bool) (far : Int) (w : World) (hn : ss.length ≤ 1048576) (hk : ls.length ≤ 1048576) (hz : EndsAt w z ss) (hl : EndsAt w zl ls) :
    Calls Tryz.prog 8 #[.agg #[.bool ok, .int .i64 far, .slice z ss.length zc, .slice zl ls.length zlc]] w fun e w' =>
    ∃ b1 b2, e = .returned (.agg #[.bool ok, .int .i64 far, .slice (some ⟨b1, 0, none⟩) ss.length ss.length, .slice (some ⟨b2, 0, none⟩) ls.length ls.length]) ∧ PathOwn w.heap.size w' b1 b2 ss ls ∧ Below w.heap.size w w' := by
  have HZ := hide hz
  have HL := hide hl
  clear hz hl
  go_enter Tryz.func8, Tryz.ntmps8
  have HT0 : Hid (TP w (((w.alloc (.cells #[.bool ok, .int .i64 far, .slice z ss.length zc, .slice zl ls.length zlc] 29)).alloc (.cells #[.bool false, .int .i64 0, .slice none 0 0, .slice none 0 0] 44)).alloc (.cells #[.bool ok, .int .i64 far, .slice none 0 0, .slice none 0 0] 44)) ok far (.slice z ss.length zc) (.slice zl ls.length zlc) (.slice none 0 0) (.slice none 0 0)) :=
    ⟨by simp [go_sem], by simp [go_sem], by simp [go_sem], by simp [go_sem], by simp [go_sem], by simp [go_sem], by simp [go_sem], by simp [go_sem], by simp [go_sem], by simp [go_sem], fun i => by simp [go_sem], fun i => by simp [go_sem], by simp, (((Below.refl _ _).alloc (Nat.le_refl _) _).alloc (by simp) _).alloc (by simp; omega) _⟩
  go_upto_region 4 with fail
  generalize (((w.alloc (.cells #[.bool ok, .int .i64 far, .slice z ss.length zc, .slice zl ls.length zlc] 29)).alloc (.cells #[.bool false, .int .i64 0, .slice none 0 0, .slice none 0 0] 44)).alloc (.cells #[.bool ok, .int .i64 far, .slice none 0 0, .slice none 0 0] 44)) = w1 at *
  have a2 := HT0.out.a2
  go_wp2_with fail
  refine (toStepS_any z ss zc _ hn (HZ.out.later HT0.out.below)).mono ?_
  rintro e w2 ⟨rfl, hR2, hE2, hb2⟩
  have HT2 := hide (HT0.out.later hb2)
  have HR2 := hide hR2
  have HE2 := hide hE2
  have hb1l : w1.heap.size < w2.heap.size := by obtain ⟨f, hf⟩ := hR2; exact hf.lt
  have h1 := HT0.out.size
  have o2 := HT2.out.o2
  have f2 := HT2.out.fo 2
  have HT3 := hide (HT2.out.set2 (.slice (some ⟨w1.heap.size, 0, none⟩) ss.length ss.length))
  have HR3 := hide (row_set (b := w.heap.size + 1 + 1) (o := 2) HR2.out (by omega) (.slice (some ⟨w1.heap.size, 0, none⟩) ss.length ss.length))
  have HE3 := hide (ends_set (b := w.heap.size + 1 + 1) (o := 2) HE2.out (fun c o e => by cases e; omega) (.slice (some ⟨w1.heap.size, 0, none⟩) ss.length ss.length))
  clear hR2 hE2 hb2 HR2 HE2 a2 HT0
  go_upto_region 5 with fail
  generalize hw3 : w2.setCell ⟨w.heap.size + 1 + 1, 2, none⟩ (.slice (some ⟨w1.heap.size, 0, none⟩) ss.length ss.length) = w3 at *
  have hs3 : w3.heap.size = w2.heap.size := by rw [← hw3]; simp
  have a3 := HT3.out.a3
  clear hw3 o2 f2 HT2
  go_wp2_with fail
  refine (toLieS_any zl ls zlc _ hk (HL.out.later HT3.out.below)).mono ?_
  rintro e w4 ⟨rfl, hR4, hE4, hb4⟩
  have HT4 := hide (HT3.out.later hb4)
  have HR4 := hide hR4
  have HE4 := hide hE4
  have HR3 := hide (HR3.out.later hb4)
  have HE3 := hide (HE3.out.later hb4)
  have hb2l : w3.heap.size < w4.heap.size := by obtain ⟨f, hf⟩ := hR4; exact hf.lt
  clear hR4 hE4 hb4 HT3 a3
  have r0 := HT4.out.r0
  have r1 := HT4.out.r1
  have r2 := HT4.out.r2
  have r3 := HT4.out.r3
  have o0 := HT4.out.o0
  have o1 := HT4.out.o1
  have o2 := HT4.out.o2
  have o3 := HT4.out.o3
  have g0 := HT4.out.fr 0
  have g1 := HT4.out.fr 1
  have g2 := HT4.out.fr 2
  have g3 := HT4.out.fr 3
  have f3 := HT4.out.fo 3
  have HOWN := hide (show PathOwn w.heap.size w4 w1.heap.size w3.heap.size ss ls from ⟨by omega, by omega, hb2l, HR3.out, HR4.out, HE3.out, HE4.out⟩)
  rw [hs3] at HOWN
  go_wp2_with fail
  refine bodyPost_ret (v := .agg #[.bool ok, .int .i64 far, .slice (some ⟨w1.heap.size, 0, none⟩) ss.length ss.length, .slice (some ⟨w2.heap.size, 0, none⟩) ls.length ls.length]) (by simp [results, Tryz.results8, go_sem, r0, r1, r2, r3]) rfl ⟨_, _, rfl, ?_, ?_⟩
  · exact ((((HOWN.out.set (by omega) _).set (by omega) _).set (by omega) _).set (by omega) _).set (by omega) _
  · exact ((((HT4.out.below.setCell (by show w.heap.size ≤ w.heap.size + 1 + 1; omega) _).setCell (by show w.heap.size ≤ w.heap.size + 1; omega) _).setCell (by show w.heap.size ≤ w.heap.size + 1; omega) _).setCell (by show w.heap.size ≤ w.heap.size + 1; omega) _).setCell (by show w.heap.size ≤ w.heap.size + 1; omega) _

theorem eqPath_same (z zl z' zl' : Option Addr) (ss ls : List (Int × Int)) (zc zlc zc' zlc' : Nat) (ok : Bool) (far : Int) (w : World) (hn : ss.length ≤ 1048576) (hk : ls.length ≤ 1048576) (hz : EndsAt w z ss) (hl : EndsAt w zl ls) (hz' : EndsAt w z' ss) (hl' : EndsAt w zl' ls) :
    Calls Tryz.prog 13 #[.agg #[.bool ok, .int .i64 far, .slice z ss.length zc, .slice zl ls.length zlc], .agg #[.bool ok, .int .i64 far, .slice z' ss.length zc', .slice zl' ls.length zlc']] w fun e w' =>
    e = .returned (.bool true) ∧ Below w.heap.size w w' := by
  have HZ := hide hz
  have HL := hide hl
  have HZ' := hide hz'
  have HL' := hide hl'
  clear hz hl hz' hl'
  have hW : Below w.heap.size w ((w.alloc (.cells #[.bool ok, .int .i64 far, .slice z ss.length zc, .slice zl ls.length zlc] 44)).alloc (.cells #[.bool ok, .int .i64 far, .slice z' ss.length zc', .slice zl' ls.length zlc'] 44)) := ((Below.refl _ _).alloc (Nat.le_refl _) _).alloc (by simp) _
  have a3 : ((w.alloc (.cells #[.bool ok, .int .i64 far, .slice z ss.length zc, .slice zl ls.length zlc] 44)).alloc (.cells #[.bool ok, .int .i64 far, .slice z' ss.length zc', .slice zl' ls.length zlc'] 44)).cell? ⟨w.heap.size, 3, none⟩ = some (.slice zl ls.length zlc) := by simp [go_sem]
  have b3 : ((w.alloc (.cells #[.bool ok, .int .i64 far, .slice z ss.length zc, .slice zl ls.length zlc] 44)).alloc (.cells #[.bool ok, .int .i64 far, .slice z' ss.length zc', .slice zl' ls.length zlc'] 44)).cell? ⟨w.heap.size + 1, 3, none⟩ = some (.slice zl' ls.length zlc') := by simp [go_sem]
  have q1 : (ok != ok) = false := by simp
  have q2 : (far != far) = false := by simp
  go_enter Tryz.func13, Tryz.ntmps13
  go_wp2_with fail
  refine (eqStepS_same z z' ss zc zc' _ hn (HZ.out.later hW) (HZ'.out.later hW)).mono ?_
  rintro e w2 ⟨rfl, hb2⟩
  have a3 := cell_later' hb2 a3
  have b3 := cell_later' hb2 b3
  have HB := hide (hW.trans (hb2.mono hW.size))
  clear hb2 hW
  go_wp2_with fail
  refine (eqLieS_same zl zl' ls zlc zlc' _ hk (HL.out.later HB.out) (HL'.out.later HB.out)).mono ?_
  rintro e w3 ⟨rfl, hb3⟩
  go_wp2_with fail
  go_ret
  exact ⟨rfl, HB.out.trans (hb3.mono HB.out.size)⟩

theorem markPath_any (B b1 b2 C : Nat) (ss ls : List (Int × Int)) (zc zlc : Nat) (ok : Bool) (far k : Int) (w : World) (hn : ss.length ≤ 1048576) (hk : ls.length ≤ 1048576) (h0 : 0 ≤ k) (h1 : k ≤ 1125899900000000) (h : PathOwn B w b1 b2 ss ls) (hC : b2 < C) :
    Calls Tryz.prog 15 #[.agg #[.bool ok, .int .i64 far, .slice (some ⟨b1, 0, none⟩) ss.length zc, .slice (some ⟨b2, 0, none⟩) ls.length zlc], .int .i64 k] w fun e w' =>
    e = .returned (.int .i64 (k + 2 * ss.length + 2 * ls.length)) ∧ Mid B C w w' := by
  have HO := hide h
  have hlo := h.lo
  have hne := h.ne
  have hhi := h.hi
  clear h
  have hA := (Below.refl w.heap.size w).alloc (Nat.le_refl _) (.cells #[.bool ok, .int .i64 far, .slice (some ⟨b1, 0, none⟩) ss.length zc, .slice (some ⟨b2, 0, none⟩) ls.length zlc] 44)
  have t3 := new_cell w #[.bool ok, .int .i64 far, .slice (some ⟨b1, 0, none⟩) ss.length zc, .slice (some ⟨b2, 0, none⟩) ls.length zlc] 44 3 _ rfl
  have HO1 := hide (HO.out.later hA)
  go_enter Tryz.func15, Tryz.ntmps15
  go_wp2_with fail
  refine (markStepS_some b1 ss.length zc (ss.length * 2) k _ hn (Nat.le_refl _) h0 (by omega) HO1.out.r1).mono ?_
  rintro e w2 ⟨rfl, hm2, _⟩
  have t3 := hm2.cell (.inr (by omega)) t3
  have HR2 := hide (hm2.row (.inr (by omega)) HO1.out.r2)
  have HM2 := hide ((Mid.of_below (B := B) (C := C) hA).trans (hm2.wide hlo (by omega)))
  clear hm2 hA HO1
  go_wp2_with fail
  refine (markLieS_some b2 ls.length zlc (ls.length * 2) (k + 2 * ss.length) _ hk (Nat.le_refl _) (by omega) (by omega) HR2.out).mono ?_
  rintro e w3 ⟨rfl, hm3, _⟩
  have HM3 := hide (HM2.out.trans (hm3.wide (by omega) (by omega)))
  clear hm3
  go_wp2_with fail
  go_ret
  exact ⟨rfl, HM3.out⟩
end Go.Proofs.YtncanhbmbjoamacGreat

/- Trails in order: byStep, slices.CompareFunc, the order of the heap. Own work. -/
import Derived.Test.YtldafgbhjpfboaaMxAD
import Derived.Test.YtldafgbhjpfboaaMxAJ
namespace Go.Proofs.Ytldafgbhjpfboaa
open Go.RowKit Go.Sort
set_option maxHeartbeats 4000000

def byS (x y : Int × Int) : Int := or2 (cmpI x.1 y.1) (cmpI x.2 y.2)
def cmpS : List (Int × Int) → List (Int × Int) → Int
  | x :: xs, y :: ys => if byS x y = 0 then cmpS xs ys else byS x y
  | _, _ => 0
theorem byS_zero {x y : Int × Int} : byS x y = 0 ↔ x = y := by
  obtain ⟨a, b⟩ := x
  obtain ⟨c, d⟩ := y
  simp only [byS, or2, cmpI, Prod.mk.injEq]
  constructor
  · intro h
    split at h <;> split at h <;> (try split at h) <;> (try split at h) <;> (try split at h) <;> omega
  · rintro ⟨rfl, rfl⟩
    simp
theorem cmpS_less : ∀ (a b : List (Int × Int)), a.length = b.length → ((cmpS a b < 0 ↔ lessS a b = true) ∧ (0 < cmpS a b ↔ lessS b a = true))
  | [], [], _ => by simp [cmpS, lessS]
  | [], _ :: _, h => by simp at h
  | _ :: _, [], h => by simp at h
  | x :: a, y :: b, h => by
    have ih := cmpS_less a b (by simpa using h)
    unfold cmpS lessS
    by_cases h1 : x.1 = y.1
    · by_cases h2 : x.2 = y.2
      · have : byS x y = 0 := byS_zero.2 (Prod.ext h1 h2)
        rw [if_pos this, if_pos h1, if_pos h2, if_pos h1.symm, if_pos h2.symm]
        exact ih
      · have hz : ¬ byS x y = 0 := fun e => h2 (by rw [byS_zero.1 e])
        rw [if_neg hz, if_pos h1, if_neg h2, if_pos h1.symm, if_neg (fun e => h2 e.symm)]
        have e : byS x y = cmpI x.2 y.2 := by simp [byS, or2, cmpI, h1]
        rw [e]
        unfold cmpI
        simp only [decide_eq_true_eq]
        constructor <;> (split <;> (try split) <;> omega)
    · have hz : ¬ byS x y = 0 := fun e => h1 (by rw [byS_zero.1 e])
      rw [if_neg hz, if_neg h1, if_neg (fun e => h1 e.symm)]
      have e : byS x y = cmpI x.1 y.1 := by
        unfold byS or2
        rw [if_neg]
        unfold cmpI
        split <;> (try split) <;> omega
      rw [e]
      unfold cmpI
      simp only [decide_eq_true_eq]
      constructor <;> (split <;> (try split) <;> omega)
/-- What the order answers. -/
def ordP (a b : Wy) : Int := if or2 (cmpI a.far b.far) (cmpI a.ss.length b.ss.length) = 0 then cmpS a.ss b.ss else or2 (cmpI a.far b.far) (cmpI a.ss.length b.ss.length)
theorem ordP_cmp (a b : Wy) : CmpW a b (ordP a b) := by
  unfold CmpW ordP lessW
  by_cases h1 : a.far = b.far
  · have e1 : cmpI a.far b.far = 0 := by simp [cmpI, h1]
    rw [e1, if_pos h1, if_pos h1.symm]
    by_cases h2 : a.ss.length = b.ss.length
    · have e2 : cmpI (a.ss.length : Int) b.ss.length = 0 := by simp [cmpI, h2]
      rw [e2, if_pos (by simp [or2]), if_pos h2, if_pos h2.symm]
      exact cmpS_less _ _ h2
    · have e2 : ¬ or2 0 (cmpI (a.ss.length : Int) b.ss.length) = 0 := by
        simp only [or2, if_true, cmpI]
        split <;> (try split) <;> omega
      rw [if_neg e2, if_neg h2, if_neg (fun e => h2 e.symm)]
      simp only [or2, if_true, cmpI, decide_eq_true_eq]
      constructor <;> (split <;> (try split) <;> omega)
  · have e1 : ¬ cmpI a.far b.far = 0 := by
      unfold cmpI
      split <;> (try split) <;> omega
    have e2 : or2 (cmpI a.far b.far) (cmpI (a.ss.length : Int) b.ss.length) = cmpI a.far b.far := by simp [or2, e1]
    rw [e2, if_neg e1, if_neg h1, if_neg (fun e => h1 e.symm)]
    simp only [cmpI, decide_eq_true_eq]
    constructor <;> (split <;> (try split) <;> omega)

abbrev BG2 (W wx : World) (x y : Int × Int) : Prop := (wx.cell? ⟨W.heap.size, 0, none⟩ = some (.int .i64 x.1) ∧ wx.cell? ⟨W.heap.size, 1, none⟩ = some (.int .i64 x.2) ∧ wx.cell? ⟨W.heap.size + 1, 0, none⟩ = some (.int .i64 y.1) ∧ wx.cell? ⟨W.heap.size + 1, 1, none⟩ = some (.int .i64 y.2)) ∧ Hid (Below W.heap.size W wx)
theorem BG2.alloc {W wx : World} {x y : Int × Int} (h : BG2 W wx x y) (o : Obj) : BG2 W (wx.alloc o) x y := by
  have hb := (Below.refl wx.heap.size wx).alloc (Nat.le_refl _) o
  exact ⟨⟨cell_later' hb h.1.1, cell_later' hb h.1.2.1, cell_later' hb h.1.2.2.1, cell_later' hb h.1.2.2.2⟩, h.2.out.trans (hb.mono h.2.out.size)⟩
theorem BG2.alloc_d {W wx : World} {x y : Int × Int} (h : BG2 W wx.drew x y) (o : Obj) : BG2 W (wx.alloc o).drew x y := h.alloc o

theorem byStep_any (x y : Int × Int) (W : World) :
    Calls Try.prog 28 #[.agg #[.int .i64 x.1, .int .i64 x.2], .agg #[.int .i64 y.1, .int .i64 y.2]] W fun e w' => e = .returned (.int .i64 (byS x y)) ∧ Below W.heap.size W w' := by
  obtain ⟨x0, x1⟩ := x
  obtain ⟨y0, y1⟩ := y
  have hBG : BG2 W ((W.alloc (.cells #[.int .i64 x0, .int .i64 x1] 32)).alloc (.cells #[.int .i64 y0, .int .i64 y1] 32)).drew (x0, x1) (y0, y1) :=
    ⟨⟨by simp [go_sem], by simp [go_sem], by simp [go_sem], by simp [go_sem]⟩, (((Below.refl _ _).alloc (Nat.le_refl _) _).alloc (by simp) _).drew⟩
  have HBG := hide hBG
  clear hBG
  go_enter Try.func28, Try.ntmps28
  go_upto_region 1 with fail
  generalize ((W.alloc (.cells #[.int .i64 x0, .int .i64 x1] 32)).alloc (.cells #[.int .i64 y0, .int .i64 y1] 32)) = w1 at *
  go_region_held3 (fun wx => BG2 W wx (x0, x1) (y0, y1))
    (first
      | (with_reducible exact HBG.out)
      | (with_reducible assumption)
      | (with_reducible exact BG2.alloc (by assumption) _)
      | (with_reducible exact BG2.alloc_d HBG.out _))
    (first
      | (go_at_call 26; refine (compare_any _ _ _).mono ?_; rintro e w2 ⟨rfl, rfl⟩)
      | (go_at_call 25; refine (or2_any w1.heap.size _ (cmpI x0 y0) (cmpI x1 y1) (w1.alloc (.cells #[.int .i64 (cmpI x0 y0), .int .i64 (cmpI x1 y1)] 3)).drew (new_cell w1 #[.int .i64 (cmpI x0 y0), .int .i64 (cmpI x1 y1)] 3 0 _ rfl) (new_cell w1 #[.int .i64 (cmpI x0 y0), .int .i64 (cmpI x1 y1)] 3 1 _ rfl)).mono ?_; rintro e w2 ⟨rfl, rfl⟩))
  all_goals
    rename_i hH
    have HH := hide hH
    clear hH
    go_wp2_with fail
    go_ret
    exact ⟨rfl, HH.out.2.out⟩

theorem cmpS_take (a b : List (Int × Int)) (k : Nat) (hk : k < a.length) (hkb : k < b.length) (h : a.take k = b.take k) (hz : ¬ byS a[k] b[k] = 0) : cmpS a b = byS a[k] b[k] := by
  induction k generalizing a b with
  | zero =>
    cases a with
    | nil => simp at hk
    | cons x a =>
      cases b with
      | nil => simp at hkb
      | cons y b => simp only [List.getElem_cons_zero] at hz ⊢; simp [cmpS, hz]
  | succ k ih =>
    cases a with
    | nil => simp at hk
    | cons x a =>
      cases b with
      | nil => simp at hkb
      | cons y b =>
        simp only [List.take_succ_cons, List.cons.injEq] at h
        obtain ⟨rfl, h⟩ := h
        simp only [List.getElem_cons_succ] at hz ⊢
        have : byS x x = 0 := byS_zero.2 rfl
        simp only [cmpS, this, if_true]
        exact ih a b (by simpa using hk) (by simpa using hkb) h hz
theorem cmpS_same (a : List (Int × Int)) : cmpS a a = 0 := by
  induction a with
  | nil => rfl
  | cons x a ih =>
    have : byS x x = 0 := byS_zero.2 rfl
    simp [cmpS, this, ih]

theorem compareFunc_any (a b : Option Addr) (ca cb : Nat) (xs ys : List (Int × Int)) (w : World) (hl : xs.length = ys.length) (hn : xs.length ≤ 1048576) (hx : EndsAt w a xs) (hy : EndsAt w b ys) :
    Calls Try.prog 27 #[.slice a xs.length ca, .slice b ys.length cb, .func (.func 28) #[] #[]] w fun e w' => e = .returned (.int .i64 (cmpS xs ys)) ∧ Below w.heap.size w w' := by
  have HX := hide hx
  have HY := hide hy
  have HLL := hide hl
  have hnl : ¬ xs.length < ys.length := by omega
  have hnli : decide ((xs.length : Int) < (ys.length : Int)) = false := decide_eq_false (by omega)
  clear hx hy hl
  generalize hRes : cmpS xs ys = Res
  have HRES := hide hRes
  clear hRes
  go_enter Try.func27, Try.ntmps27
  go_wp2_with fail
  go_loopw [7, 8, 9, 13] (fun _ _ _ i wr => ∃ (k : Nat), k ≤ xs.length ∧ i = .int .i64 k ∧ Hid (xs.take k = ys.take k) ∧ Below w.heap.size w wr) (fun _ _ _ i _ => xs.length - (intOf i).toNat)
  case atStart => exact ⟨0, Nat.zero_le _, rfl, hide (by simp), Below.refl _ _⟩
  case round =>
    obtain ⟨k, hk, rfl, HT, hb⟩ := hrel
    by_cases hlt : k < xs.length
    · obtain ⟨b1, off, rfl, c0, c1⟩ := (EndsAt.later HX.out hb) k hlt
      obtain ⟨b2, off', rfl, d0, d1⟩ := (EndsAt.later HY.out hb) k (by have := HLL.out; omega)
      have hky : k < ys.length := by have := HLL.out; omega
      have hi1 : (k : Int) < (ys.length : Int) := by omega
      have hi2 : ¬ (ys.length : Int) ≤ (k : Int) := by omega
      have hl1 := cell_lt c0
      have hl2 := cell_lt d0
      have hb2 : Below w.heap.size w ((wr.alloc (.cells #[.int .i64 xs[k].1, .int .i64 xs[k].2] 32)).alloc (.cells #[.int .i64 ys[k].1, .int .i64 ys[k].2] 32)) := (hb.alloc hb.size _).alloc (by have := hb.size; simp; omega) _
      have HB2 := hide hb2
      clear hb2
      have HC := hide (byStep_any xs[k] ys[k])
      go_wp2_with fail
      refine (HC.out _).mono ?_
      rintro e w2 ⟨rfl, hb3⟩
      have HB3 := hide (HB2.out.trans (hb3.mono HB2.out.size))
      clear hb3
      by_cases hc : byS xs[k] ys[k] = 0
      · have HT2 := hide (show xs.take (k + 1) = ys.take (k + 1) by
          rw [List.take_succ_eq_append_getElem hlt, List.take_succ_eq_append_getElem hky, HT.out, byS_zero.1 hc])
        have q : (byS xs[k] ys[k] != 0) = false := by rw [hc]; rfl
        clear hc
        go_wp2_with fail
        go_roundw
        case rel => exact ⟨k + 1, by omega, by go_num, HT2, HB3.out⟩
        case measure => simp [intOf]; omega
      · have HR := hide (show byS xs[k] ys[k] = Res by rw [← HRES.out]; exact (cmpS_take xs ys k hlt hky HT.out hc).symm)
        have q : (byS xs[k] ys[k] != 0) = true := by rw [bne_iff_ne]; exact hc
        clear hc
        go_wp2_with fail
        go_ret
        exact ⟨ret_i HR.out, HB3.out⟩
    · have HR := hide (show (0 : Int) = Res by
        have e := HT.out
        rw [List.take_of_length_le (by omega), List.take_of_length_le (by have := HLL.out; omega)] at e
        rw [← HRES.out, e, cmpS_same])
      go_wp2_with fail
      go_ret
      exact ⟨ret_i HR.out, hb⟩

/-- A trail in memory. -/
def TrAt (w : World) (v : Value) (y : Wy) : Prop := ∃ z zc, v = .agg #[.int .i64 y.far, .slice z y.ss.length zc] ∧ EndsAt w z y.ss
abbrev OG (W wx : World) (v0 v1 u0 u1 : Value) : Prop := (wx.cell? ⟨W.heap.size, 0, none⟩ = some v0 ∧ wx.cell? ⟨W.heap.size, 1, none⟩ = some v1 ∧ wx.cell? ⟨W.heap.size + 1, 0, none⟩ = some u0 ∧ wx.cell? ⟨W.heap.size + 1, 1, none⟩ = some u1) ∧ Hid (Below W.heap.size W wx)
theorem OG.alloc {W wx : World} {v0 v1 u0 u1 : Value} (h : OG W wx v0 v1 u0 u1) (o : Obj) : OG W (wx.alloc o) v0 v1 u0 u1 := by
  have hb := (Below.refl wx.heap.size wx).alloc (Nat.le_refl _) o
  exact ⟨⟨cell_later' hb h.1.1, cell_later' hb h.1.2.1, cell_later' hb h.1.2.2.1, cell_later' hb h.1.2.2.2⟩, h.2.out.trans (hb.mono h.2.out.size)⟩
theorem OG.alloc_d {W wx : World} {v0 v1 u0 u1 : Value} (h : OG W wx.drew v0 v1 u0 u1) (o : Obj) : OG W (wx.alloc o).drew v0 v1 u0 u1 := h.alloc o
theorem order_any (za zb : Option Addr) (ca cb : Nat) (x y : Wy) (w : World) (hx : x.ss.length ≤ 1048576) (ha : EndsAt w za x.ss) (hb : EndsAt w zb y.ss) :
    Calls Try.prog 24 #[.agg #[.int .i64 x.far, .slice za x.ss.length ca], .agg #[.int .i64 y.far, .slice zb y.ss.length cb]] w fun e w' => e = .returned (.int .i64 (ordP x y)) ∧ Below w.heap.size w w' := by
  have HX := hide ha
  have HY := hide hb
  clear ha hb
  go_enter Try.func24, Try.ntmps24
  have hBG : OG w ((w.alloc (.cells #[.int .i64 x.far, .slice za x.ss.length ca] 48)).alloc (.cells #[.int .i64 y.far, .slice zb y.ss.length cb] 48)).drew (.int .i64 x.far) (.slice za x.ss.length ca) (.int .i64 y.far) (.slice zb y.ss.length cb) :=
    ⟨⟨by simp [go_sem], by simp [go_sem], by simp [go_sem], by simp [go_sem]⟩, (((Below.refl _ _).alloc (Nat.le_refl _) _).alloc (by simp) _).drew⟩
  have HBG := hide hBG
  clear hBG
  go_upto_region 1 with fail
  generalize ((w.alloc (.cells #[.int .i64 x.far, .slice za x.ss.length ca] 48)).alloc (.cells #[.int .i64 y.far, .slice zb y.ss.length cb] 48)) = w1 at *
  go_region_held3 (fun wx => OG w wx (.int .i64 x.far) (.slice za x.ss.length ca) (.int .i64 y.far) (.slice zb y.ss.length cb))
    (first
      | (with_reducible exact HBG.out)
      | (with_reducible assumption)
      | (with_reducible exact OG.alloc (by assumption) _)
      | (with_reducible exact OG.alloc_d HBG.out _))
    (first
      | (go_at_call 26; refine (compare_any _ _ _).mono ?_; rintro e w2 ⟨rfl, rfl⟩)
      | (go_at_call 25; refine (or2_any w1.heap.size _ (cmpI x.far y.far) (cmpI x.ss.length y.ss.length) (w1.alloc (.cells #[.int .i64 (cmpI x.far y.far), .int .i64 (cmpI x.ss.length y.ss.length)] 3)).drew (new_cell w1 #[.int .i64 (cmpI x.far y.far), .int .i64 (cmpI x.ss.length y.ss.length)] 3 0 _ rfl) (new_cell w1 #[.int .i64 (cmpI x.far y.far), .int .i64 (cmpI x.ss.length y.ss.length)] 3 1 _ rfl)).mono ?_; rintro e w2 ⟨rfl, rfl⟩))
  all_goals
    rename_i hH
    have HB2 := hide hH.2.out
    obtain ⟨t0, t1, t2, t3⟩ := hH.1
    clear hH
    have hsz1 := HBG.out.2.out.size
    generalize (w1.alloc (.cells #[.int .i64 (cmpI x.far y.far), .int .i64 (cmpI x.ss.length y.ss.length)] 3)).drew = w3 at *
    by_cases h0 : or2 (cmpI x.far y.far) (cmpI x.ss.length y.ss.length) = 0
    · have HL := hide (show x.ss.length = y.ss.length by
        unfold or2 cmpI at h0
        split at h0 <;> split at h0 <;> (try split at h0) <;> (try split at h0) <;> omega)
      have HR := hide (show cmpS x.ss y.ss = ordP x y by unfold ordP; rw [if_pos h0])
      have q0 : (or2 (cmpI x.far y.far) (cmpI (x.ss.length : Int) (y.ss.length : Int)) != 0) = false := by rw [h0]; rfl
      clear h0
      go_wp2_with fail
      refine (compareFunc_any za zb ca cb x.ss y.ss _ HL.out hx (HX.out.later HB2.out) (HY.out.later HB2.out)).mono ?_
      rintro e w4 ⟨rfl, hb4⟩
      go_wp2_with fail
      go_ret
      exact ⟨ret_i HR.out, HB2.out.trans (hb4.mono HB2.out.size)⟩
    · have HR := hide (show or2 (cmpI x.far y.far) (cmpI x.ss.length y.ss.length) = ordP x y by unfold ordP; rw [if_neg h0])
      have q0 : (or2 (cmpI x.far y.far) (cmpI (x.ss.length : Int) (y.ss.length : Int)) != 0) = true := by rw [bne_iff_ne]; exact h0
      clear h0
      go_wp2_with fail
      go_ret
      exact ⟨ret_i HR.out, HB2.out⟩
end Go.Proofs.Ytldafgbhjpfboaa

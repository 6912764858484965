/- Trails in order: byStep, slices.CompareFunc, the order of the heap. Own work. -/
import Derived.Test.YtijdigdcmjdooaaGreatMxAO
import Derived.Test.YtijdigdcmjdooaaGreatMxAK
import Derived.Test.YtijdigdcmjdooaaGreatMxAA
import Derived.Test.YtijdigdcmjdooaaGreatMxAF
import Derived.Deep.RegionWith
import Derived.Deep.RegionHeld3
import Derived.Test.YtijdigdcmjdooaaGreatMxAN
import Derived.Test.YtijdigdcmjdooaaGreatMxAD
import Derived.Deep.AppendLies
import Derived.Deep.CutRange
namespace Go.Proofs.YtijdigdcmjdooaaGreat
open Go.RowKit Go.Sort
set_option maxHeartbeats 4000000

def byS (x y : Int × Int) : Int := or2 (cmpI x.1 y.1) (cmpI x.2 y.2)
def cmpS : List (Int × Int) → List (Int × Int) → Int
  | x :: xs, y :: ys => if byS x y = 0 then cmpS xs ys else byS x y
  | _, _ => 0
theorem byS_zero {x y : Int × Int} : byS x y = 0 ↔ x = y := by
  obtain ⟨a, b⟩ := x
  obtain ⟨c, d⟩ := y
  simp only [byS, or2, cmpI, Prod.mk.injEq]
  constructor
  · intro h
    split at h <;> split at h <;> (try split at h) <;> (try split at h) <;> (try split at h) <;> omega
  · rintro ⟨rfl, rfl⟩
    simp
theorem cmpS_less : ∀ (a b : List (Int × Int)), a.length = b.length → ((cmpS a b < 0 ↔ lessS a b = true) ∧ (0 < cmpS a b ↔ lessS b a = true))
  | [], [], _ => by simp [cmpS, lessS]
  | [], _ :: _, h => by simp at h
  | _ :: _, [], h => by simp at h
  | x :: a, y :: b, h => by
    have ih := cmpS_less a b (by simpa using h)
    unfold cmpS lessS
    by_cases h1 : x.1 = y.1
    · by_cases h2 : x.2 = y.2
      · have : byS x y = 0 := byS_zero.2 (Prod.ext h1 h2)
        rw [if_pos this, if_pos h1, if_pos h2, if_pos h1.symm, if_pos h2.symm]
        exact ih
      · have hz : ¬ byS x y = 0 := fun e => h2 (by rw [byS_zero.1 e])
        rw [if_neg hz, if_pos h1, if_neg h2, if_pos h1.symm, if_neg (fun e => h2 e.symm)]
        have e : byS x y = cmpI x.2 y.2 := by simp [byS, or2, cmpI, h1]
        rw [e]
        unfold cmpI
        simp only [decide_eq_true_eq]
        constructor <;> (split <;> (try split) <;> omega)
    · have hz : ¬ byS x y = 0 := fun e => h1 (by rw [byS_zero.1 e])
      rw [if_neg hz, if_neg h1, if_neg (fun e => h1 e.symm)]
      have e : byS x y = cmpI x.1 y.1 := by
        unfold byS or2
        rw [if_neg]
        unfold cmpI
        split <;> (try split) <;> omega
      rw [e]
      unfold cmpI
      simp only [decide_eq_true_eq]
      constructor <;> (split <;> (try split) <;> omega)
/-- What the order answers. -/
def ordP (a b : Wy) : Int := if or2 (cmpI a.far b.far) (cmpI a.ss.length b.ss.length) = 0 then cmpS a.ss b.ss else or2 (cmpI a.far b.far) (cmpI a.ss.length b.ss.length)
theorem ordP_cmp (a b : Wy) : CmpW a b (ordP a b) := by
  unfold CmpW ordP lessW
  by_cases h1 : a.far = b.far
  · have e1 : cmpI a.far b.far = 0 := by simp [cmpI, h1]
    rw [e1, if_pos h1, if_pos h1.symm]
    by_cases h2 : a.ss.length = b.ss.length
    · have e2 : cmpI (a.ss.length : Int) b.ss.length = 0 := by simp [cmpI, h2]
      rw [e2, if_pos (by simp [or2]), if_pos h2, if_pos h2.symm]
      exact cmpS_less _ _ h2
    · have e2 : ¬ or2 0 (cmpI (a.ss.length : Int) b.ss.length) = 0 := by
        simp only [or2, if_true, cmpI]
        split <;> (try split) <;> omega
      rw [if_neg e2, if_neg h2, if_neg (fun e => h2 e.symm)]
      simp only [or2, if_true, cmpI, decide_eq_true_eq]
      constructor <;> (split <;> (try split) <;> omega)
  · have e1 : ¬ cmpI a.far b.far = 0 := by
      unfold cmpI
      split <;> (try split) <;> omega
    have e2 : or2 (cmpI a.far b.far) (cmpI (a.ss.length : Int) b.ss.length) = cmpI a.far b.far := by simp [or2, e1]
    rw [e2, if_neg e1, if_neg h1, if_neg (fun e => h1 e.symm)]
    simp only [cmpI, decide_eq_true_eq]
    constructor <;> (split <;> (try split) <;> omega)

abbrev BG2 (W wx : World) (x y : Int × Int) : Prop := (wx.cell? ⟨W.heap.size, 0, none⟩ = some (.int .i64 x.1) ∧ wx.cell? ⟨W.heap.size, 1, none⟩ = some (.int .i64 x.2) ∧ wx.cell? ⟨W.heap.size + 1, 0, none⟩ = some (.int .i64 y.1) ∧ wx.cell? ⟨W.heap.size + 1, 1, none⟩ = some (.int .i64 y.2)) ∧ Hid (Below W.heap.size W wx)
theorem BG2.alloc {W wx : World} {x y : Int × Int} (h : BG2 W wx x y) (o : Obj) : BG2 W (wx.alloc o) x y := by
  have hb := (Below.refl wx.heap.size wx).alloc (Nat.le_refl _) o
  exact ⟨⟨cell_later' hb h.1.1, cell_later' hb h.1.2.1, cell_later' hb h.1.2.2.1, cell_later' hb h.1.2.2.2⟩, h.2.out.trans (hb.mono h.2.out.size)⟩
theorem BG2.alloc_d {W wx : World} {x y : Int × Int} (h : BG2 W wx.drew x y) (o : Obj) : BG2 W (wx.alloc o).drew x y := h.alloc o

theorem byStep_any (x y : Int × Int) (W : World) :
    Calls Tryz.prog 98 #[.agg #[.int .i64 x.1, .int .i64 x.2], .agg #[.int .i64 y.1, .int .i64 y.2]] W fun e w' => e = .returned (.int .i64 (byS x y)) ∧ Below W.heap.size W w' := by
  obtain ⟨x0, x1⟩ := x
  obtain ⟨y0, y1⟩ := y
  have hBG : BG2 W ((W.alloc (.cells #[.int .i64 x0, .int .i64 x1] 132)).alloc (.cells #[.int .i64 y0, .int .i64 y1] 132)).drew (x0, x1) (y0, y1) :=
    ⟨⟨by simp [go_sem], by simp [go_sem], by simp [go_sem], by simp [go_sem]⟩, (((Below.refl _ _).alloc (Nat.le_refl _) _).alloc (by simp) _).drew⟩
  have HBG := hide hBG
  clear hBG
  go_enter Tryz.func98, Tryz.ntmps98
  go_upto_region 1 with fail
  generalize ((W.alloc (.cells #[.int .i64 x0, .int .i64 x1] 132)).alloc (.cells #[.int .i64 y0, .int .i64 y1] 132)) = w1 at *
  go_region_held3 (fun wx => BG2 W wx (x0, x1) (y0, y1))
    (first
      | (with_reducible exact HBG.out)
      | (with_reducible assumption)
      | (with_reducible exact BG2.alloc (by assumption) _)
      | (with_reducible exact BG2.alloc_d HBG.out _))
    (first
      | (go_at_call 64; refine (compare_any _ _ _).mono ?_; rintro e w2 ⟨rfl, rfl⟩)
      | (go_at_call 63; refine (or2_any w1.heap.size _ (cmpI x0 y0) (cmpI x1 y1) (w1.alloc (.cells #[.int .i64 (cmpI x0 y0), .int .i64 (cmpI x1 y1)] 3)).drew (new_cell w1 #[.int .i64 (cmpI x0 y0), .int .i64 (cmpI x1 y1)] 3 0 _ rfl) (new_cell w1 #[.int .i64 (cmpI x0 y0), .int .i64 (cmpI x1 y1)] 3 1 _ rfl)).mono ?_; rintro e w2 ⟨rfl, rfl⟩))
  all_goals
    rename_i hH
    have HH := hide hH
    clear hH
    go_wp2_with fail
    go_ret
    exact ⟨rfl, HH.out.2.out⟩

theorem cmpS_take (a b : List (Int × Int)) (k : Nat) (hk : k < a.length) (hkb : k < b.length) (h : a.take k = b.take k) (hz : ¬ byS a[k] b[k] = 0) : cmpS a b = byS a[k] b[k] := by
  induction k generalizing a b with
  | zero =>
    cases a with
    | nil => simp at hk
    | cons x a =>
      cases b with
      | nil => simp at hkb
      | cons y b => simp only [List.getElem_cons_zero] at hz ⊢; simp [cmpS, hz]
  | succ k ih =>
    cases a with
    | nil => simp at hk
    | cons x a =>
      cases b with
      | nil => simp at hkb
      | cons y b =>
        simp only [List.take_succ_cons, List.cons.injEq] at h
        obtain ⟨rfl, h⟩ := h
        simp only [List.getElem_cons_succ] at hz ⊢
        have : byS x x = 0 := byS_zero.2 rfl
        simp only [cmpS, this, if_true]
        exact ih a b (by simpa using hk) (by simpa using hkb) h hz
theorem cmpS_same (a : List (Int × Int)) : cmpS a a = 0 := by
  induction a with
  | nil => rfl
  | cons x a ih =>
    have : byS x x = 0 := byS_zero.2 rfl
    simp [cmpS, this, ih]

theorem compareFunc_any (a b : Option Addr) (ca cb : Nat) (xs ys : List (Int × Int)) (w : World) (hl : xs.length = ys.length) (hn : xs.length ≤ 1048576) (hx : EndsAt w a xs) (hy : EndsAt w b ys) :
    Calls Tryz.prog 97 #[.slice a xs.length ca, .slice b ys.length cb, .func (.func 98) #[] #[]] w fun e w' => e = .returned (.int .i64 (cmpS xs ys)) ∧ Below w.heap.size w w' := by
  have HX := hide hx
  have HY := hide hy
  have HLL := hide hl
  have hnl : ¬ xs.length < ys.length := by omega
  have hnli : decide ((xs.length : Int) < (ys.length : Int)) = false := decide_eq_false (by omega)
  clear hx hy hl
  generalize hRes : cmpS xs ys = Res
  have HRES := hide hRes
  clear hRes
  go_enter Tryz.func97, Tryz.ntmps97
  go_wp2_with fail
  go_loopw [7, 8, 9, 13] (fun _ _ _ i wr => ∃ (k : Nat), k ≤ xs.length ∧ i = .int .i64 k ∧ Hid (xs.take k = ys.take k) ∧ Below w.heap.size w wr) (fun _ _ _ i _ => xs.length - (intOf i).toNat)
  case atStart => exact ⟨0, Nat.zero_le _, rfl, hide (by simp), Below.refl _ _⟩
  case round =>
    obtain ⟨k, hk, rfl, HT, hb⟩ := hrel
    by_cases hlt : k < xs.length
    · obtain ⟨b1, off, rfl, c0, c1⟩ := (EndsAt.later HX.out hb) k hlt
      obtain ⟨b2, off', rfl, d0, d1⟩ := (EndsAt.later HY.out hb) k (by have := HLL.out; omega)
      have hky : k < ys.length := by have := HLL.out; omega
      have hi1 : (k : Int) < (ys.length : Int) := by omega
      have hi2 : ¬ (ys.length : Int) ≤ (k : Int) := by omega
      have hl1 := cell_lt c0
      have hl2 := cell_lt d0
      have hb2 : Below w.heap.size w ((wr.alloc (.cells #[.int .i64 xs[k].1, .int .i64 xs[k].2] 132)).alloc (.cells #[.int .i64 ys[k].1, .int .i64 ys[k].2] 132)) := (hb.alloc hb.size _).alloc (by have := hb.size; simp; omega) _
      have HB2 := hide hb2
      clear hb2
      have HC := hide (byStep_any xs[k] ys[k])
      go_wp2_with fail
      refine (HC.out _).mono ?_
      rintro e w2 ⟨rfl, hb3⟩
      have HB3 := hide (HB2.out.trans (hb3.mono HB2.out.size))
      clear hb3
      by_cases hc : byS xs[k] ys[k] = 0
      · have HT2 := hide (show xs.take (k + 1) = ys.take (k + 1) by
          rw [List.take_succ_eq_append_getElem hlt, List.take_succ_eq_append_getElem hky, HT.out, byS_zero.1 hc])
        have q : (byS xs[k] ys[k] != 0) = false := by rw [hc]; rfl
        clear hc
        go_wp2_with fail
        go_roundw
        case rel => exact ⟨k + 1, by omega, by go_num, HT2, HB3.out⟩
        case measure => simp [intOf]; omega
      · have HR := hide (show byS xs[k] ys[k] = Res by rw [← HRES.out]; exact (cmpS_take xs ys k hlt hky HT.out hc).symm)
        have q : (byS xs[k] ys[k] != 0) = true := by rw [bne_iff_ne]; exact hc
        clear hc
        go_wp2_with fail
        go_ret
        exact ⟨ret_i HR.out, HB3.out⟩
    · have HR := hide (show (0 : Int) = Res by
        have e := HT.out
        rw [List.take_of_length_le (by omega), List.take_of_length_le (by have := HLL.out; omega)] at e
        rw [← HRES.out, e, cmpS_same])
      go_wp2_with fail
      go_ret
      exact ⟨ret_i HR.out, hb⟩

/-- A trail in memory. -/
def TrAt (w : World) (v : Value) (y : Wy) : Prop := ∃ z zc, v = .agg #[.int .i64 y.far, .slice z y.ss.length zc] ∧ EndsAt w z y.ss
abbrev OG (W wx : World) (v0 v1 u0 u1 : Value) : Prop := (wx.cell? ⟨W.heap.size, 0, none⟩ = some v0 ∧ wx.cell? ⟨W.heap.size, 1, none⟩ = some v1 ∧ wx.cell? ⟨W.heap.size + 1, 0, none⟩ = some u0 ∧ wx.cell? ⟨W.heap.size + 1, 1, none⟩ = some u1) ∧ Hid (Below W.heap.size W wx)
theorem OG.alloc {W wx : World} {v0 v1 u0 u1 : Value} (h : OG W wx v0 v1 u0 u1) (o : Obj) : OG W (wx.alloc o) v0 v1 u0 u1 := by
  have hb := (Below.refl wx.heap.size wx).alloc (Nat.le_refl _) o
  exact ⟨⟨cell_later' hb h.1.1, cell_later' hb h.1.2.1, cell_later' hb h.1.2.2.1, cell_later' hb h.1.2.2.2⟩, h.2.out.trans (hb.mono h.2.out.size)⟩
theorem OG.alloc_d {W wx : World} {v0 v1 u0 u1 : Value} (h : OG W wx.drew v0 v1 u0 u1) (o : Obj) : OG W (wx.alloc o).drew v0 v1 u0 u1 := h.alloc o
theorem order_any (za zb : Option Addr) (ca cb : Nat) (x y : Wy) (w : World) (hx : x.ss.length ≤ 1048576) (ha : EndsAt w za x.ss) (hb : EndsAt w zb y.ss) :
    Calls Tryz.prog 96 #[.agg #[.int .i64 x.far, .slice za x.ss.length ca], .agg #[.int .i64 y.far, .slice zb y.ss.length cb]] w fun e w' => e = .returned (.int .i64 (ordP x y)) ∧ Below w.heap.size w w' := by
  have HX := hide ha
  have HY := hide hb
  clear ha hb
  go_enter Tryz.func96, Tryz.ntmps96
  have hBG : OG w ((w.alloc (.cells #[.int .i64 x.far, .slice za x.ss.length ca] 101)).alloc (.cells #[.int .i64 y.far, .slice zb y.ss.length cb] 101)).drew (.int .i64 x.far) (.slice za x.ss.length ca) (.int .i64 y.far) (.slice zb y.ss.length cb) :=
    ⟨⟨by simp [go_sem], by simp [go_sem], by simp [go_sem], by simp [go_sem]⟩, (((Below.refl _ _).alloc (Nat.le_refl _) _).alloc (by simp) _).drew⟩
  have HBG := hide hBG
  clear hBG
  go_upto_region 1 with fail
  generalize ((w.alloc (.cells #[.int .i64 x.far, .slice za x.ss.length ca] 101)).alloc (.cells #[.int .i64 y.far, .slice zb y.ss.length cb] 101)) = w1 at *
  go_region_held3 (fun wx => OG w wx (.int .i64 x.far) (.slice za x.ss.length ca) (.int .i64 y.far) (.slice zb y.ss.length cb))
    (first
      | (with_reducible exact HBG.out)
      | (with_reducible assumption)
      | (with_reducible exact OG.alloc (by assumption) _)
      | (with_reducible exact OG.alloc_d HBG.out _))
    (first
      | (go_at_call 64; refine (compare_any _ _ _).mono ?_; rintro e w2 ⟨rfl, rfl⟩)
      | (go_at_call 63; refine (or2_any w1.heap.size _ (cmpI x.far y.far) (cmpI x.ss.length y.ss.length) (w1.alloc (.cells #[.int .i64 (cmpI x.far y.far), .int .i64 (cmpI x.ss.length y.ss.length)] 3)).drew (new_cell w1 #[.int .i64 (cmpI x.far y.far), .int .i64 (cmpI x.ss.length y.ss.length)] 3 0 _ rfl) (new_cell w1 #[.int .i64 (cmpI x.far y.far), .int .i64 (cmpI x.ss.length y.ss.length)] 3 1 _ rfl)).mono ?_; rintro e w2 ⟨rfl, rfl⟩))
  all_goals
    rename_i hH
    have HB2 := hide hH.2.out
    obtain ⟨t0, t1, t2, t3⟩ := hH.1
    clear hH
    have hsz1 := HBG.out.2.out.size
    generalize (w1.alloc (.cells #[.int .i64 (cmpI x.far y.far), .int .i64 (cmpI x.ss.length y.ss.length)] 3)).drew = w3 at *
    by_cases h0 : or2 (cmpI x.far y.far) (cmpI x.ss.length y.ss.length) = 0
    · have HL := hide (show x.ss.length = y.ss.length by
        unfold or2 cmpI at h0
        split at h0 <;> split at h0 <;> (try split at h0) <;> (try split at h0) <;> omega)
      have HR := hide (show cmpS x.ss y.ss = ordP x y by unfold ordP; rw [if_pos h0])
      have q0 : (or2 (cmpI x.far y.far) (cmpI (x.ss.length : Int) (y.ss.length : Int)) != 0) = false := by rw [h0]; rfl
      clear h0
      go_wp2_with fail
      refine (compareFunc_any za zb ca cb x.ss y.ss _ HL.out hx (HX.out.later HB2.out) (HY.out.later HB2.out)).mono ?_
      rintro e w4 ⟨rfl, hb4⟩
      go_wp2_with fail
      go_ret
      exact ⟨ret_i HR.out, HB2.out.trans (hb4.mono HB2.out.size)⟩
    · have HR := hide (show or2 (cmpI x.far y.far) (cmpI x.ss.length y.ss.length) = ordP x y by unfold ordP; rw [if_neg h0])
      have q0 : (or2 (cmpI x.far y.far) (cmpI (x.ss.length : Int) (y.ss.length : Int)) != 0) = true := by rw [bne_iff_ne]; exact h0
      clear h0
      go_wp2_with fail
      go_ret
      exact ⟨ret_i HR.out, HB2.out⟩
end Go.Proofs.YtijdigdcmjdooaaGreat

/- The laws' own helpers on lists of steps and of lies (written by gen_lhs.py out of those on ends). Own work. -/
namespace Go.Proofs.YtijdigdcmjdooaaGreat
open Go.RowKit
set_option maxHeartbeats 1000000

theorem info_Step : (Tryz.prog.info? 132).map (fun i => (i.zero, i.size, i.bytes)) = some (some (.agg #[.int .i64 0, .int .i64 0]), 2, 16) := by kernel_rfl

theorem info_Lie : (Tryz.prog.info? 177).map (fun i => (i.zero, i.size, i.bytes)) = some (some (.agg #[.int .i64 0, .int .i64 0]), 2, 16) := by kernel_rfl

end Go.Proofs.YtijdigdcmjdooaaGreat

/- liesFor, impl.PathLies. Own work. -/
namespace Go.Proofs.YtijdigdcmjdooaaGreat
open Go.RowKit
set_option maxHeartbeats 8000000

/-- A list of lies, cell by cell. -/
def lieCells (ps : List (Int × Int)) : List Value := ps.flatMap fun p => [.int .i64 p.1, .int .i64 p.2]
theorem infoLie : (Tryz.prog.info? 177).map (fun i => (i.zero, i.size, i.bytes)) = some (some (.agg #[.int .i64 0, .int .i64 0]), 2, 16) := by kernel_rfl

/-- What between tells, in one form. -/
def BQ (N : Nt) (s t : Int × Int) (x y : Int) (ok : Bool) : Prop :=
  (ok = false ∧ wantP N s t = none) ∨ (ok = true ∧ ∃ (j : Nat) (hj : j < N.jts.length), x = j ∧ wantP N s t = some (j, y) ∧ (N.jts[j].kind = 3 → ¬ y = 0) ∧ (¬ y = 0 → N.jts[j].kind = 3) ∧ 0 ≤ y ∧ y ≤ 2)
theorem between_one (a a' : Option Addr) (N : Nt) (cap cap' m n : Nat) (s1 s2 t1 t2 : Int) (w : World) (hright : netOk N = (0, 0)) (hn : N.pcs.length ≤ 1048576) (hs : stepOk N.pcs.length (s1, s2) = true) (ht : stepOk N.pcs.length (t1, t2) = true) (hJ : JtsAt w a' N.jts) (hSE : SE w m n (seatTo N.jts N.jts.length)) :
    Calls Tryz.prog 104 #[.agg #[.slice a N.pcs.length cap, .slice a' N.jts.length cap', .map (some m)], .agg #[.int .i64 s1, .int .i64 s2], .agg #[.int .i64 t1, .int .i64 t2]] w fun e w' =>
    ∃ (x y : Int) (ok : Bool), e = .returned (.tuple #[.agg #[.int .i64 x, .int .i64 y], .bool ok]) ∧ BQ N (s1, s2) (t1, t2) x y ok ∧ Below w.heap.size w w' := by
  refine (between_any a a' N cap cap' m n s1 s2 t1 t2 w hright hn hs ht hJ hSE).mono ?_
  rintro e w' ⟨⟨h, rfl⟩ | ⟨j, l, hj, h1, h2, h3, h4, h5, rfl⟩, hb⟩
  · exact ⟨0, 0, false, rfl, .inl ⟨rfl, h⟩, hb⟩
  · exact ⟨j, l, true, rfl, .inr ⟨rfl, j, hj, rfl, h1, h2, h3, h4, h5⟩, hb⟩

/-- Between two rounds of liesFor: the layout in block bl, what is known in block bk; nothing of this lies from bs on. -/
structure LF (w wr : World) (bl bk bs m n : Nat) (N : Nt) (v0 v1 : Value) (kn : Nat → Int) : Prop where
  c0 : wr.cell? ⟨bl, 0, none⟩ = some v0
  c1 : wr.cell? ⟨bl, 1, none⟩ = some v1
  c2 : wr.cell? ⟨bl, 2, none⟩ = some (.map (some m))
  row : ∃ f, wr.rowIs bk 3 N.jts.length f ∧ ∀ j, j < N.jts.length → f j = .int .i64 (kn j)
  se : SE wr m n (seatTo N.jts N.jts.length)
  below : Below w.heap.size w wr
  size : bs ≤ wr.heap.size
  wl : w.heap.size ≤ bl
  wk : w.heap.size ≤ bk
  lk : bl < bk
  ks : bk < bs
  ms : m < bs
  mne : m ≠ bk
  ml : m ≠ bl

theorem LF.later {w wr w2 : World} {bl bk bs m n : Nat} {N : Nt} {v0 v1 : Value} {kn : Nat → Int} (h : LF w wr bl bk bs m n N v0 v1 kn) (hb : Below wr.heap.size wr w2) : LF w w2 bl bk bs m n N v0 v1 kn where
  c0 := cell_later' hb h.c0
  c1 := cell_later' hb h.c1
  c2 := cell_later' hb h.c2
  row := by obtain ⟨f, hf, hk⟩ := h.row; exact ⟨f, hf.of_block (hb.block bk hf.lt), hk⟩
  se := h.se.of_block (hb.block m h.se.lt)
  below := h.below.trans (hb.mono h.below.size)
  size := Nat.le_trans h.size hb.size
  wl := h.wl
  wk := h.wk
  lk := h.lk
  ks := h.ks
  ms := h.ms
  mne := h.mne
  ml := h.ml

theorem LF.set {w wr : World} {bl bk bs m n : Nat} {N : Nt} {v0 v1 : Value} {kn : Nat → Int} (h : LF w wr bl bk bs m n N v0 v1 kn) (j : Nat) (l : Int) : LF w (wr.setCell ⟨bk, j, none⟩ (.int .i64 l)) bl bk bs m n N v0 v1 (fun i => if i = j then l else kn i) where
  c0 := by rw [World.cell?_setCell_far wr ⟨bk, j, none⟩ ⟨bl, 0, none⟩ _ (by have := h.lk; show bk ≠ bl; omega)]; exact h.c0
  c1 := by rw [World.cell?_setCell_far wr ⟨bk, j, none⟩ ⟨bl, 1, none⟩ _ (by have := h.lk; show bk ≠ bl; omega)]; exact h.c1
  c2 := by rw [World.cell?_setCell_far wr ⟨bk, j, none⟩ ⟨bl, 2, none⟩ _ (by have := h.lk; show bk ≠ bl; omega)]; exact h.c2
  row := by
    obtain ⟨f, hf, hk⟩ := h.row
    refine ⟨_, hf.set _ _, fun i hi => ?_⟩
    by_cases e : i = j
    · subst e; simp
    · simp [e, hk i hi]
  se := h.se.of_block (Below.heap_setCell _ _ _ _ h.mne)
  below := h.below.setCell (by show w.heap.size ≤ bk; exact h.wk) _
  size := by simpa using h.size
  wl := h.wl
  wk := h.wk
  lk := h.lk
  ks := h.ks
  ms := h.ms
  mne := h.mne
  ml := h.ml

theorem LF.grown {w wr w2 : World} {bl bk bs m n : Nat} {N : Nt} {v0 v1 : Value} {kn : Nat → Int} {row : Option Nat} (h : LF w wr bl bk bs m n N v0 v1 kn) (hg : wr.grownBy w2 row) (hrow : ∀ g, row = some g → bs ≤ g) : LF w w2 bl bk bs m n N v0 v1 kn := by
  have hne : ∀ B, B < bs → some B ≠ row := fun B hB e => by have := hrow B e.symm; omega
  have h1 := h.lk
  have h2 := h.ks
  have h3 := h.ms
  have h4 := h.wl
  have h5 := h.wk
  refine ⟨?_, ?_, ?_, ?_, ?_, h.below.grown hg h.below.size (fun k e => by have := hrow k e; omega), Nat.le_trans h.size hg.size, h.wl, h.wk, h.lk, h.ks, h.ms, h.mne, h.ml⟩
  · rw [hg.cell_far ⟨bl, 0, none⟩ (cell_lt h.c0) (hne _ (by show bl < bs; omega))]; exact h.c0
  · rw [hg.cell_far ⟨bl, 1, none⟩ (cell_lt h.c1) (hne _ (by show bl < bs; omega))]; exact h.c1
  · rw [hg.cell_far ⟨bl, 2, none⟩ (cell_lt h.c2) (hne _ (by show bl < bs; omega))]; exact h.c2
  · obtain ⟨f, hf, hk⟩ := h.row
    exact ⟨f, hf.of_block (hg.block bk hf.lt (hne _ h2)), hk⟩
  · exact h.se.of_block (hg.block m h.se.lt (hne _ h3))

/-- What liesFor tells. -/
def LiesR (N : Nt) (ss : List (Int × Int)) (base : Nat) (v : Value) (ok : Bool) (w' : World) : Prop :=
  (liesQ N ss = none ∧ v = .slice none 0 0 ∧ ok = false) ∨ (∃ out, liesQ N ss = some out ∧ ok = true ∧ out.length ≤ 400 ∧ w'.ownsRow base 177 2 v out.length (lieCells out))
end Go.Proofs.YtijdigdcmjdooaaGreat

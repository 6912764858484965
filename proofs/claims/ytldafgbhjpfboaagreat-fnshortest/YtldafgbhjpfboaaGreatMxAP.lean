/- Two sorted lists of parts: whether a part of the one and a part of the other meet. Own work. -/
import Derived.Test.YtldafgbhjpfboaaGreatMxAO
import Derived.Test.YtldafgbhjpfboaaGreatMxAI
import Derived.Sort.Grow
import Derived.Test.YtldafgbhjpfboaaGreatMxAN
namespace Go.Proofs.YtldafgbhjpfboaaGreat

/-- x lies ahead of y, without a common place. -/
def aheadP (x y : Prt) : Bool := decide (x.1 < y.1) || ((x.1 == y.1) && decide (x.2.2 < y.2.1))
/-- y is not ahead of x by piece and begin. -/
def leP (x y : Prt) : Prop := x.1 < y.1 ∨ (x.1 = y.1 ∧ x.2.1 ≤ y.2.1)
/-- In order, place by place. -/
def Sorted (l : List Prt) : Prop := ∀ i j (hi : i < l.length) (hj : j < l.length), i ≤ j → leP l[i] l[j]

theorem meets_ahead {x y y' : Prt} (h : aheadP x y = true) (hl : leP y y') : meets x y' = false := by
  unfold leP at hl
  unfold aheadP at h
  simp only [Bool.or_eq_true, Bool.and_eq_true, decide_eq_true_eq, beq_iff_eq] at h
  have : ¬ (x.1 = y'.1 ∧ y'.2.1 ≤ x.2.2) := by omega
  rw [Bool.eq_false_iff]
  intro hm
  unfold meets at hm
  simp only [Bool.and_eq_true, decide_eq_true_eq, beq_iff_eq] at hm
  exact this ⟨hm.1.1, hm.2⟩

theorem meets_comm (x y : Prt) : meets x y = meets y x := by
  rw [Bool.eq_iff_iff]
  simp only [meets, Bool.and_eq_true, decide_eq_true_eq, beq_iff_eq]
  omega

theorem meets_neither {x y : Prt} (h : aheadP x y = false) (h' : aheadP y x = false) : meets x y = true := by
  unfold aheadP at h h'
  simp only [Bool.or_eq_false_iff, Bool.and_eq_false_iff, decide_eq_false_iff_not, beq_eq_false_iff_ne, ne_eq] at h h'
  simp only [meets, Bool.and_eq_true, decide_eq_true_eq, beq_iff_eq]
  omega

def anyMeets (a b : List Prt) : Bool := a.any fun x => b.any (meets x)

theorem anyMeets_iff (a b : List Prt) : anyMeets a b = true ↔ ∃ x ∈ a, ∃ y ∈ b, meets x y = true := by
  simp [anyMeets, List.any_eq_true]

theorem anyMeets_left {a b : List Prt} {i k : Nat} (hi : i < a.length) (hk : k < b.length) (hb : Sorted b) (h : aheadP a[i] b[k] = true) : anyMeets (a.drop i) (b.drop k) = anyMeets (a.drop (i + 1)) (b.drop k) := by
  rw [Bool.eq_iff_iff, anyMeets_iff, anyMeets_iff, List.drop_eq_getElem_cons hi]
  constructor
  · rintro ⟨x, hx, y, hy, hm⟩
    rcases List.mem_cons.1 hx with rfl | hx
    · obtain ⟨n, hn, rfl⟩ := List.getElem_of_mem hy
      rw [List.getElem_drop] at hm
      rw [meets_ahead h (hb k (k + n) hk (by simp at hn; omega) (by omega))] at hm
      cases hm
    · exact ⟨x, hx, y, hy, hm⟩
  · rintro ⟨x, hx, y, hy, hm⟩
    exact ⟨x, List.mem_cons_of_mem _ hx, y, hy, hm⟩

theorem anyMeets_swap (a b : List Prt) : anyMeets a b = anyMeets b a := by
  rw [Bool.eq_iff_iff, anyMeets_iff, anyMeets_iff]
  constructor
  · rintro ⟨x, hx, y, hy, hm⟩
    exact ⟨y, hy, x, hx, by rw [meets_comm]; exact hm⟩
  · rintro ⟨x, hx, y, hy, hm⟩
    exact ⟨y, hy, x, hx, by rw [meets_comm]; exact hm⟩

theorem anyMeets_right {a b : List Prt} {i k : Nat} (hi : i < a.length) (hk : k < b.length) (ha : Sorted a) (h : aheadP b[k] a[i] = true) : anyMeets (a.drop i) (b.drop k) = anyMeets (a.drop i) (b.drop (k + 1)) := by
  rw [anyMeets_swap, anyMeets_left hk hi ha h, anyMeets_swap]

theorem anyMeets_here {a b : List Prt} {i k : Nat} (hi : i < a.length) (hk : k < b.length) (h : aheadP a[i] b[k] = false) (h' : aheadP b[k] a[i] = false) : anyMeets (a.drop i) (b.drop k) = true := by
  rw [anyMeets_iff]
  exact ⟨a[i], by rw [List.drop_eq_getElem_cons hi]; exact List.mem_cons_self, b[k], by rw [List.drop_eq_getElem_cons hk]; exact List.mem_cons_self, meets_neither h h'⟩

theorem anyMeets_end {a b : List Prt} {i k : Nat} (h : a.length ≤ i ∨ b.length ≤ k) : anyMeets (a.drop i) (b.drop k) = false := by
  rcases h with h | h
  · rw [List.drop_eq_nil_of_le h]; rfl
  · rw [List.drop_eq_nil_of_le h, anyMeets_swap]; rfl

theorem anyMeets_perm {a a' b b' : List Prt} (ha : a.Perm a') (hb : b.Perm b') : anyMeets a b = anyMeets a' b' := by
  rw [Bool.eq_iff_iff, anyMeets_iff, anyMeets_iff]
  constructor
  · rintro ⟨x, hx, y, hy, hm⟩
    exact ⟨x, ha.mem_iff.1 hx, y, hb.mem_iff.1 hy, hm⟩
  · rintro ⟨x, hx, y, hy, hm⟩
    exact ⟨x, ha.mem_iff.2 hx, y, hb.mem_iff.2 hy, hm⟩

theorem touchP_any (a b : List Prt) (ha : partsOkP a = true) (hb : partsOkP b = true) : touchP a b = anyMeets a b := by simp [touchP, ha, hb, anyMeets]
end Go.Proofs.YtldafgbhjpfboaaGreat

/- endsAhead, byBegin. Own work. -/
namespace Go.Proofs.YtldafgbhjpfboaaGreat
open Go.RowKit Go.Sort
set_option maxHeartbeats 2000000

def cmpI (x y : Int) : Int := if x < y then -1 else if y < x then 1 else 0
theorem isNaN_any (x : Int) (w : World) : Calls Tryz.prog 82 #[.int .i64 x] w fun e w' => e = .returned (.bool false) ∧ w = w' := by
  have q : (x != x) = false := by simp
  go_enter Tryz.func82, Tryz.ntmps82
  go_wp2_with fail
  go_ret
  exact ⟨ret_b (by simp), rfl⟩
theorem compare_any (x y : Int) (w : World) : Calls Tryz.prog 64 #[.int .i64 x, .int .i64 y] w fun e w' => e = .returned (.int .i64 (cmpI x y)) ∧ w = w' := by
  by_cases h1 : x < y
  · have q1 : decide (x < y) = true := decide_eq_true h1
    have HR := hide (show cmpI x y = -1 by simp [cmpI, h1])
    clear h1
    go_enter Tryz.func64, Tryz.ntmps64
    go_wp2_with (first | (go_at_call 82; refine (isNaN_any _ _).mono ?_; rintro e w1 ⟨rfl, rfl⟩))
    go_ret
    exact ⟨ret_i HR.out.symm, rfl⟩
  · by_cases h2 : y < x
    · have q1 : decide (x < y) = false := decide_eq_false h1
      have q2 : decide (y < x) = true := decide_eq_true h2
      have HR := hide (show cmpI x y = 1 by simp [cmpI, h1, h2])
      clear h1 h2
      go_enter Tryz.func64, Tryz.ntmps64
      go_wp2_with (first | (go_at_call 82; refine (isNaN_any _ _).mono ?_; rintro e w1 ⟨rfl, rfl⟩))
      go_ret
      exact ⟨ret_i HR.out.symm, rfl⟩
    · have q1 : decide (x < y) = false := decide_eq_false h1
      have q2 : decide (y < x) = false := decide_eq_false h2
      have HR := hide (show cmpI x y = 0 by simp [cmpI, h1, h2])
      clear h1 h2
      go_enter Tryz.func64, Tryz.ntmps64
      go_wp2_with (first | (go_at_call 82; refine (isNaN_any _ _).mono ?_; rintro e w1 ⟨rfl, rfl⟩))
      go_ret
      exact ⟨ret_i HR.out.symm, rfl⟩

def or2 (x y : Int) : Int := if x = 0 then y else x
theorem or2_any (b c : Nat) (x y : Int) (w : World) (h0 : w.cell? ⟨b, 0, none⟩ = some (.int .i64 x)) (h1 : w.cell? ⟨b, 1, none⟩ = some (.int .i64 y)) :
    Calls Tryz.prog 63 #[.slice (some ⟨b, 0, none⟩) 2 c] w fun e w' => e = .returned (.int .i64 (or2 x y)) ∧ w = w' := by
  go_enter Tryz.func63, Tryz.ntmps63
  go_wp2_with fail
  go_loop [5, 8] (fun _ i => ∃ k : Nat, k ≤ 2 ∧ i = .int .i64 k ∧ (1 ≤ k → x = 0) ∧ (2 ≤ k → y = 0)) (fun _ i => 2 - (intOf i).toNat)
  case atStart => exact ⟨0, by omega, rfl, by omega, by omega⟩
  case round =>
    obtain ⟨k, hk, rfl, hx, hy⟩ := hrel
    have hkk : k = 0 ∨ k = 1 ∨ k = 2 := by omega
    rcases hkk with rfl | rfl | rfl
    · by_cases hz : x = 0
      · subst hz
        clear hx hy
        go_wp2_with fail
        exact ⟨⟨1, by omega, rfl, fun _ => (by first | trivial | rfl), by omega⟩, by simp [intOf]⟩
      · have q : (x != 0) = true := by rw [bne_iff_ne]; exact hz
        have HR := hide (show or2 x y = x by simp [or2, hz])
        clear hz hx hy
        go_wp2_with fail
        go_ret
        exact ⟨ret_i HR.out.symm, rfl⟩
    · have hx0 := hx (by omega)
      subst hx0
      clear hx hy
      by_cases hz : y = 0
      · subst hz
        go_wp2_with fail
        exact ⟨⟨2, by omega, rfl, fun _ => (by first | trivial | rfl), fun _ => (by first | trivial | rfl)⟩, by simp [intOf]⟩
      · have q : (y != 0) = true := by rw [bne_iff_ne]; exact hz
        have HR := hide (show or2 0 y = y by simp [or2])
        clear hz
        go_wp2_with fail
        go_ret
        exact ⟨ret_i HR.out.symm, rfl⟩
    · have hx0 := hx (by omega)
      have hy0 := hy (by omega)
      subst hx0
      subst hy0
      clear hx hy
      go_wp2_with fail
      go_ret
      exact ⟨ret_i (by simp [or2]), rfl⟩

/-- What byBegin answers. -/
def byP (x y : Prt) : Int := or2 (cmpI x.1 y.1) (cmpI x.2.1 y.2.1)

abbrev BG (W wx : World) (x y : Prt) : Prop := (wx.cell? ⟨W.heap.size, 0, none⟩ = some (.int .i64 x.1) ∧ wx.cell? ⟨W.heap.size, 1, none⟩ = some (.int .i64 x.2.1) ∧ wx.cell? ⟨W.heap.size + 1, 0, none⟩ = some (.int .i64 y.1) ∧ wx.cell? ⟨W.heap.size + 1, 1, none⟩ = some (.int .i64 y.2.1)) ∧ Hid (∃ q os', wx = grow (W.drewN q) os')
theorem BG.alloc {W wx : World} {x y : Prt} (h : BG W wx x y) (o : Obj) : BG W (wx.alloc o) x y := by
  have hb := (Below.refl wx.heap.size wx).alloc (Nat.le_refl _) o
  refine ⟨⟨cell_later' hb h.1.1, cell_later' hb h.1.2.1, cell_later' hb h.1.2.2.1, cell_later' hb h.1.2.2.2⟩, ?_⟩
  obtain ⟨q, os', e⟩ := h.2.out
  exact ⟨q, os' ++ #[o], by rw [e, alloc_eq_grow, grow_grow]⟩

theorem BG.alloc_d {W wx : World} {x y : Prt} (h : BG W wx.drew x y) (o : Obj) : BG W (wx.alloc o).drew x y := h.alloc o

end Go.Proofs.YtldafgbhjpfboaaGreat

/- Trails in order: byStep, slices.CompareFunc, the order of the heap. Own work. -/
namespace Go.Proofs.YtldafgbhjpfboaaGreat
open Go.RowKit Go.Sort
set_option maxHeartbeats 4000000

def byS (x y : Int × Int) : Int := or2 (cmpI x.1 y.1) (cmpI x.2 y.2)
def cmpS : List (Int × Int) → List (Int × Int) → Int
  | x :: xs, y :: ys => if byS x y = 0 then cmpS xs ys else byS x y
  | _, _ => 0
theorem byS_zero {x y : Int × Int} : byS x y = 0 ↔ x = y := by
  obtain ⟨a, b⟩ := x
  obtain ⟨c, d⟩ := y
  simp only [byS, or2, cmpI, Prod.mk.injEq]
  constructor
  · intro h
    split at h <;> split at h <;> (try split at h) <;> (try split at h) <;> (try split at h) <;> omega
  · rintro ⟨rfl, rfl⟩
    simp
theorem cmpS_less : ∀ (a b : List (Int × Int)), a.length = b.length → ((cmpS a b < 0 ↔ lessS a b = true) ∧ (0 < cmpS a b ↔ lessS b a = true))
  | [], [], _ => by simp [cmpS, lessS]
  | [], _ :: _, h => by simp at h
  | _ :: _, [], h => by simp at h
  | x :: a, y :: b, h => by
    have ih := cmpS_less a b (by simpa using h)
    unfold cmpS lessS
    by_cases h1 : x.1 = y.1
    · by_cases h2 : x.2 = y.2
      · have : byS x y = 0 := byS_zero.2 (Prod.ext h1 h2)
        rw [if_pos this, if_pos h1, if_pos h2, if_pos h1.symm, if_pos h2.symm]
        exact ih
      · have hz : ¬ byS x y = 0 := fun e => h2 (by rw [byS_zero.1 e])
        rw [if_neg hz, if_pos h1, if_neg h2, if_pos h1.symm, if_neg (fun e => h2 e.symm)]
        have e : byS x y = cmpI x.2 y.2 := by simp [byS, or2, cmpI, h1]
        rw [e]
        unfold cmpI
        simp only [decide_eq_true_eq]
        constructor <;> (split <;> (try split) <;> omega)
    · have hz : ¬ byS x y = 0 := fun e => h1 (by rw [byS_zero.1 e])
      rw [if_neg hz, if_neg h1, if_neg (fun e => h1 e.symm)]
      have e : byS x y = cmpI x.1 y.1 := by
        unfold byS or2
        rw [if_neg]
        unfold cmpI
        split <;> (try split) <;> omega
      rw [e]
      unfold cmpI
      simp only [decide_eq_true_eq]
      constructor <;> (split <;> (try split) <;> omega)
/-- What the order answers. -/
def ordP (a b : Wy) : Int := if or2 (cmpI a.far b.far) (cmpI a.ss.length b.ss.length) = 0 then cmpS a.ss b.ss else or2 (cmpI a.far b.far) (cmpI a.ss.length b.ss.length)
theorem ordP_cmp (a b : Wy) : CmpW a b (ordP a b) := by
  unfold CmpW ordP lessW
  by_cases h1 : a.far = b.far
  · have e1 : cmpI a.far b.far = 0 := by simp [cmpI, h1]
    rw [e1, if_pos h1, if_pos h1.symm]
    by_cases h2 : a.ss.length = b.ss.length
    · have e2 : cmpI (a.ss.length : Int) b.ss.length = 0 := by simp [cmpI, h2]
      rw [e2, if_pos (by simp [or2]), if_pos h2, if_pos h2.symm]
      exact cmpS_less _ _ h2
    · have e2 : ¬ or2 0 (cmpI (a.ss.length : Int) b.ss.length) = 0 := by
        simp only [or2, if_true, cmpI]
        split <;> (try split) <;> omega
      rw [if_neg e2, if_neg h2, if_neg (fun e => h2 e.symm)]
      simp only [or2, if_true, cmpI, decide_eq_true_eq]
      constructor <;> (split <;> (try split) <;> omega)
  · have e1 : ¬ cmpI a.far b.far = 0 := by
      unfold cmpI
      split <;> (try split) <;> omega
    have e2 : or2 (cmpI a.far b.far) (cmpI (a.ss.length : Int) b.ss.length) = cmpI a.far b.far := by simp [or2, e1]
    rw [e2, if_neg e1, if_neg h1, if_neg (fun e => h1 e.symm)]
    simp only [cmpI, decide_eq_true_eq]
    constructor <;> (split <;> (try split) <;> omega)

abbrev BG2 (W wx : World) (x y : Int × Int) : Prop := (wx.cell? ⟨W.heap.size, 0, none⟩ = some (.int .i64 x.1) ∧ wx.cell? ⟨W.heap.size, 1, none⟩ = some (.int .i64 x.2) ∧ wx.cell? ⟨W.heap.size + 1, 0, none⟩ = some (.int .i64 y.1) ∧ wx.cell? ⟨W.heap.size + 1, 1, none⟩ = some (.int .i64 y.2)) ∧ Hid (Below W.heap.size W wx)
theorem BG2.alloc {W wx : World} {x y : Int × Int} (h : BG2 W wx x y) (o : Obj) : BG2 W (wx.alloc o) x y := by
  have hb := (Below.refl wx.heap.size wx).alloc (Nat.le_refl _) o
  exact ⟨⟨cell_later' hb h.1.1, cell_later' hb h.1.2.1, cell_later' hb h.1.2.2.1, cell_later' hb h.1.2.2.2⟩, h.2.out.trans (hb.mono h.2.out.size)⟩
theorem BG2.alloc_d {W wx : World} {x y : Int × Int} (h : BG2 W wx.drew x y) (o : Obj) : BG2 W (wx.alloc o).drew x y := h.alloc o

theorem byStep_any (x y : Int × Int) (W : World) :
    Calls Tryz.prog 66 #[.agg #[.int .i64 x.1, .int .i64 x.2], .agg #[.int .i64 y.1, .int .i64 y.2]] W fun e w' => e = .returned (.int .i64 (byS x y)) ∧ Below W.heap.size W w' := by
  obtain ⟨x0, x1⟩ := x
  obtain ⟨y0, y1⟩ := y
  have hBG : BG2 W ((W.alloc (.cells #[.int .i64 x0, .int .i64 x1] 37)).alloc (.cells #[.int .i64 y0, .int .i64 y1] 37)).drew (x0, x1) (y0, y1) :=
    ⟨⟨by simp [go_sem], by simp [go_sem], by simp [go_sem], by simp [go_sem]⟩, (((Below.refl _ _).alloc (Nat.le_refl _) _).alloc (by simp) _).drew⟩
  have HBG := hide hBG
  clear hBG
  go_enter Tryz.func66, Tryz.ntmps66
  go_upto_region 1 with fail
  generalize ((W.alloc (.cells #[.int .i64 x0, .int .i64 x1] 37)).alloc (.cells #[.int .i64 y0, .int .i64 y1] 37)) = w1 at *
  go_region_held3 (fun wx => BG2 W wx (x0, x1) (y0, y1))
    (first
      | (with_reducible exact HBG.out)
      | (with_reducible assumption)
      | (with_reducible exact BG2.alloc (by assumption) _)
      | (with_reducible exact BG2.alloc_d HBG.out _))
    (first
      | (go_at_call 64; refine (compare_any _ _ _).mono ?_; rintro e w2 ⟨rfl, rfl⟩)
      | (go_at_call 63; refine (or2_any w1.heap.size _ (cmpI x0 y0) (cmpI x1 y1) (w1.alloc (.cells #[.int .i64 (cmpI x0 y0), .int .i64 (cmpI x1 y1)] 3)).drew (new_cell w1 #[.int .i64 (cmpI x0 y0), .int .i64 (cmpI x1 y1)] 3 0 _ rfl) (new_cell w1 #[.int .i64 (cmpI x0 y0), .int .i64 (cmpI x1 y1)] 3 1 _ rfl)).mono ?_; rintro e w2 ⟨rfl, rfl⟩))
  all_goals
    rename_i hH
    have HH := hide hH
    clear hH
    go_wp2_with fail
    go_ret
    exact ⟨rfl, HH.out.2.out⟩

theorem cmpS_take (a b : List (Int × Int)) (k : Nat) (hk : k < a.length) (hkb : k < b.length) (h : a.take k = b.take k) (hz : ¬ byS a[k] b[k] = 0) : cmpS a b = byS a[k] b[k] := by
  induction k generalizing a b with
  | zero =>
    cases a with
    | nil => simp at hk
    | cons x a =>
      cases b with
      | nil => simp at hkb
      | cons y b => simp only [List.getElem_cons_zero] at hz ⊢; simp [cmpS, hz]
  | succ k ih =>
    cases a with
    | nil => simp at hk
    | cons x a =>
      cases b with
      | nil => simp at hkb
      | cons y b =>
        simp only [List.take_succ_cons, List.cons.injEq] at h
        obtain ⟨rfl, h⟩ := h
        simp only [List.getElem_cons_succ] at hz ⊢
        have : byS x x = 0 := byS_zero.2 rfl
        simp only [cmpS, this, if_true]
        exact ih a b (by simpa using hk) (by simpa using hkb) h hz
theorem cmpS_same (a : List (Int × Int)) : cmpS a a = 0 := by
  induction a with
  | nil => rfl
  | cons x a ih =>
    have : byS x x = 0 := byS_zero.2 rfl
    simp [cmpS, this, ih]

theorem compareFunc_any (a b : Option Addr) (ca cb : Nat) (xs ys : List (Int × Int)) (w : World) (hl : xs.length = ys.length) (hn : xs.length ≤ 1048576) (hx : EndsAt w a xs) (hy : EndsAt w b ys) :
    Calls Tryz.prog 65 #[.slice a xs.length ca, .slice b ys.length cb, .func (.func 66) #[] #[]] w fun e w' => e = .returned (.int .i64 (cmpS xs ys)) ∧ Below w.heap.size w w' := by
  have HX := hide hx
  have HY := hide hy
  have HLL := hide hl
  have hnl : ¬ xs.length < ys.length := by omega
  have hnli : decide ((xs.length : Int) < (ys.length : Int)) = false := decide_eq_false (by omega)
  clear hx hy hl
  generalize hRes : cmpS xs ys = Res
  have HRES := hide hRes
  clear hRes
  go_enter Tryz.func65, Tryz.ntmps65
  go_wp2_with fail
  go_loopw [7, 8, 9, 13] (fun _ _ _ i wr => ∃ (k : Nat), k ≤ xs.length ∧ i = .int .i64 k ∧ Hid (xs.take k = ys.take k) ∧ Below w.heap.size w wr) (fun _ _ _ i _ => xs.length - (intOf i).toNat)
  case atStart => exact ⟨0, Nat.zero_le _, rfl, hide (by simp), Below.refl _ _⟩
  case round =>
    obtain ⟨k, hk, rfl, HT, hb⟩ := hrel
    by_cases hlt : k < xs.length
    · obtain ⟨b1, off, rfl, c0, c1⟩ := (EndsAt.later HX.out hb) k hlt
      obtain ⟨b2, off', rfl, d0, d1⟩ := (EndsAt.later HY.out hb) k (by have := HLL.out; omega)
      have hky : k < ys.length := by have := HLL.out; omega
      have hi1 : (k : Int) < (ys.length : Int) := by omega
      have hi2 : ¬ (ys.length : Int) ≤ (k : Int) := by omega
      have hl1 := cell_lt c0
      have hl2 := cell_lt d0
      have hb2 : Below w.heap.size w ((wr.alloc (.cells #[.int .i64 xs[k].1, .int .i64 xs[k].2] 37)).alloc (.cells #[.int .i64 ys[k].1, .int .i64 ys[k].2] 37)) := (hb.alloc hb.size _).alloc (by have := hb.size; simp; omega) _
      have HB2 := hide hb2
      clear hb2
      have HC := hide (byStep_any xs[k] ys[k])
      go_wp2_with fail
      refine (HC.out _).mono ?_
      rintro e w2 ⟨rfl, hb3⟩
      have HB3 := hide (HB2.out.trans (hb3.mono HB2.out.size))
      clear hb3
      by_cases hc : byS xs[k] ys[k] = 0
      · have HT2 := hide (show xs.take (k + 1) = ys.take (k + 1) by
          rw [List.take_succ_eq_append_getElem hlt, List.take_succ_eq_append_getElem hky, HT.out, byS_zero.1 hc])
        have q : (byS xs[k] ys[k] != 0) = false := by rw [hc]; rfl
        clear hc
        go_wp2_with fail
        go_roundw
        case rel => exact ⟨k + 1, by omega, by go_num, HT2, HB3.out⟩
        case measure => simp [intOf]; omega
      · have HR := hide (show byS xs[k] ys[k] = Res by rw [← HRES.out]; exact (cmpS_take xs ys k hlt hky HT.out hc).symm)
        have q : (byS xs[k] ys[k] != 0) = true := by rw [bne_iff_ne]; exact hc
        clear hc
        go_wp2_with fail
        go_ret
        exact ⟨ret_i HR.out, HB3.out⟩
    · have HR := hide (show (0 : Int) = Res by
        have e := HT.out
        rw [List.take_of_length_le (by omega), List.take_of_length_le (by have := HLL.out; omega)] at e
        rw [← HRES.out, e, cmpS_same])
      go_wp2_with fail
      go_ret
      exact ⟨ret_i HR.out, hb⟩

/-- A trail in memory. -/
def TrAt (w : World) (v : Value) (y : Wy) : Prop := ∃ z zc, v = .agg #[.int .i64 y.far, .slice z y.ss.length zc] ∧ EndsAt w z y.ss
abbrev OG (W wx : World) (v0 v1 u0 u1 : Value) : Prop := (wx.cell? ⟨W.heap.size, 0, none⟩ = some v0 ∧ wx.cell? ⟨W.heap.size, 1, none⟩ = some v1 ∧ wx.cell? ⟨W.heap.size + 1, 0, none⟩ = some u0 ∧ wx.cell? ⟨W.heap.size + 1, 1, none⟩ = some u1) ∧ Hid (Below W.heap.size W wx)
theorem OG.alloc {W wx : World} {v0 v1 u0 u1 : Value} (h : OG W wx v0 v1 u0 u1) (o : Obj) : OG W (wx.alloc o) v0 v1 u0 u1 := by
  have hb := (Below.refl wx.heap.size wx).alloc (Nat.le_refl _) o
  exact ⟨⟨cell_later' hb h.1.1, cell_later' hb h.1.2.1, cell_later' hb h.1.2.2.1, cell_later' hb h.1.2.2.2⟩, h.2.out.trans (hb.mono h.2.out.size)⟩
theorem OG.alloc_d {W wx : World} {v0 v1 u0 u1 : Value} (h : OG W wx.drew v0 v1 u0 u1) (o : Obj) : OG W (wx.alloc o).drew v0 v1 u0 u1 := h.alloc o
theorem order_any (za zb : Option Addr) (ca cb : Nat) (x y : Wy) (w : World) (hx : x.ss.length ≤ 1048576) (ha : EndsAt w za x.ss) (hb : EndsAt w zb y.ss) :
    Calls Tryz.prog 62 #[.agg #[.int .i64 x.far, .slice za x.ss.length ca], .agg #[.int .i64 y.far, .slice zb y.ss.length cb]] w fun e w' => e = .returned (.int .i64 (ordP x y)) ∧ Below w.heap.size w w' := by
  have HX := hide ha
  have HY := hide hb
  clear ha hb
  go_enter Tryz.func62, Tryz.ntmps62
  have hBG : OG w ((w.alloc (.cells #[.int .i64 x.far, .slice za x.ss.length ca] 62)).alloc (.cells #[.int .i64 y.far, .slice zb y.ss.length cb] 62)).drew (.int .i64 x.far) (.slice za x.ss.length ca) (.int .i64 y.far) (.slice zb y.ss.length cb) :=
    ⟨⟨by simp [go_sem], by simp [go_sem], by simp [go_sem], by simp [go_sem]⟩, (((Below.refl _ _).alloc (Nat.le_refl _) _).alloc (by simp) _).drew⟩
  have HBG := hide hBG
  clear hBG
  go_upto_region 1 with fail
  generalize ((w.alloc (.cells #[.int .i64 x.far, .slice za x.ss.length ca] 62)).alloc (.cells #[.int .i64 y.far, .slice zb y.ss.length cb] 62)) = w1 at *
  go_region_held3 (fun wx => OG w wx (.int .i64 x.far) (.slice za x.ss.length ca) (.int .i64 y.far) (.slice zb y.ss.length cb))
    (first
      | (with_reducible exact HBG.out)
      | (with_reducible assumption)
      | (with_reducible exact OG.alloc (by assumption) _)
      | (with_reducible exact OG.alloc_d HBG.out _))
    (first
      | (go_at_call 64; refine (compare_any _ _ _).mono ?_; rintro e w2 ⟨rfl, rfl⟩)
      | (go_at_call 63; refine (or2_any w1.heap.size _ (cmpI x.far y.far) (cmpI x.ss.length y.ss.length) (w1.alloc (.cells #[.int .i64 (cmpI x.far y.far), .int .i64 (cmpI x.ss.length y.ss.length)] 3)).drew (new_cell w1 #[.int .i64 (cmpI x.far y.far), .int .i64 (cmpI x.ss.length y.ss.length)] 3 0 _ rfl) (new_cell w1 #[.int .i64 (cmpI x.far y.far), .int .i64 (cmpI x.ss.length y.ss.length)] 3 1 _ rfl)).mono ?_; rintro e w2 ⟨rfl, rfl⟩))
  all_goals
    rename_i hH
    have HB2 := hide hH.2.out
    obtain ⟨t0, t1, t2, t3⟩ := hH.1
    clear hH
    have hsz1 := HBG.out.2.out.size
    generalize (w1.alloc (.cells #[.int .i64 (cmpI x.far y.far), .int .i64 (cmpI x.ss.length y.ss.length)] 3)).drew = w3 at *
    by_cases h0 : or2 (cmpI x.far y.far) (cmpI x.ss.length y.ss.length) = 0
    · have HL := hide (show x.ss.length = y.ss.length by
        unfold or2 cmpI at h0
        split at h0 <;> split at h0 <;> (try split at h0) <;> (try split at h0) <;> omega)
      have HR := hide (show cmpS x.ss y.ss = ordP x y by unfold ordP; rw [if_pos h0])
      have q0 : (or2 (cmpI x.far y.far) (cmpI (x.ss.length : Int) (y.ss.length : Int)) != 0) = false := by rw [h0]; rfl
      clear h0
      go_wp2_with fail
      refine (compareFunc_any za zb ca cb x.ss y.ss _ HL.out hx (HX.out.later HB2.out) (HY.out.later HB2.out)).mono ?_
      rintro e w4 ⟨rfl, hb4⟩
      go_wp2_with fail
      go_ret
      exact ⟨ret_i HR.out, HB2.out.trans (hb4.mono HB2.out.size)⟩
    · have HR := hide (show or2 (cmpI x.far y.far) (cmpI x.ss.length y.ss.length) = ordP x y by unfold ordP; rw [if_neg h0])
      have q0 : (or2 (cmpI x.far y.far) (cmpI (x.ss.length : Int) (y.ss.length : Int)) != 0) = true := by rw [bne_iff_ne]; exact h0
      clear h0
      go_wp2_with fail
      go_ret
      exact ⟨ret_i HR.out, HB2.out⟩
end Go.Proofs.YtldafgbhjpfboaaGreat

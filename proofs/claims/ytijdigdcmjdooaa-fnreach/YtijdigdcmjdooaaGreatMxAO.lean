/- spec.PartsLen, spec.Touch. Own work. -/
import Derived.Test.YtijdigdcmjdooaaGreatMxAB
import Derived.Test.YtijdigdcmjdooaaGreatMxAD
import Derived.Deep.QuietTactic
import Derived.BigQuiet
import Derived.Sort.Grow
namespace Go.Proofs.YtijdigdcmjdooaaGreat
open Go.RowKit
set_option maxHeartbeats 2000000

abbrev Prt := Int × Int × Int
def partOk (p : Prt) : Bool := inR p.1 0 99 && inR p.2.1 0 10000000 && inR p.2.2 p.2.1 10000000
def partsOkP (ps : List Prt) : Bool := ps.all partOk && decide (ps.length ≤ 10000)
def lenSum (ps : List Prt) : Int := ps.foldl (fun n p => n + (p.2.2 - p.2.1)) 0
def partsLenP (ps : List Prt) : Int := if partsOkP ps = true then lenSum ps else -1
def meets (x y : Prt) : Bool := (x.1 == y.1) && decide (x.2.1 ≤ y.2.2) && decide (y.2.1 ≤ x.2.2)
def touchP (a b : List Prt) : Bool := partsOkP a && partsOkP b && a.any (fun x => b.any (meets x))

theorem lenSum_succ (ps : List Prt) (k : Nat) (hk : k < ps.length) : lenSum (ps.take (k + 1)) = lenSum (ps.take k) + (ps[k].2.2 - ps[k].2.1) := by
  unfold lenSum
  rw [List.take_succ_eq_append_getElem hk, List.foldl_append]
  rfl

theorem part_bounds {p : Prt} (h : partOk p = true) : (0 ≤ p.1 ∧ p.1 ≤ 99) ∧ (0 ≤ p.2.1 ∧ p.2.1 ≤ 10000000) ∧ p.2.1 ≤ p.2.2 ∧ p.2.2 ≤ 10000000 := by
  simp only [partOk, inR, Bool.and_eq_true, decide_eq_true_eq] at h
  omega

theorem ok_at {ps : List Prt} (h : partsOkP ps = true) (k : Nat) (hk : k < ps.length) : partOk ps[k] = true := by
  simp only [partsOkP, Bool.and_eq_true, List.all_eq_true] at h
  exact h.1 _ (List.getElem_mem hk)

theorem lenSum_bound {ps : List Prt} (h : partsOkP ps = true) (k : Nat) (hk : k ≤ ps.length) : 0 ≤ lenSum (ps.take k) ∧ lenSum (ps.take k) ≤ k * 10000000 := by
  induction k with
  | zero => simp [lenSum]
  | succ k ih =>
    rw [lenSum_succ _ _ (by omega)]
    have := ih (by omega)
    have := part_bounds (ok_at h k (by omega))
    omega

theorem l1in_a {x a b : Int} {r : Bool} (h : inR x a b = r) (w : World) : Calls Tryz.prog 35 #[.int .i64 x, .int .i64 a, .int .i64 b] w fun e w' =>
    e = .returned (.bool r) ∧ w = w' := (l1in_any x a b w).mono fun _ _ h' => ⟨by rw [h'.1, h], h'.2⟩

end Go.Proofs.YtijdigdcmjdooaaGreat

/- Two sorted lists of parts: whether a part of the one and a part of the other meet. Own work. -/
namespace Go.Proofs.YtijdigdcmjdooaaGreat

/-- x lies ahead of y, without a common place. -/
def aheadP (x y : Prt) : Bool := decide (x.1 < y.1) || ((x.1 == y.1) && decide (x.2.2 < y.2.1))
/-- y is not ahead of x by piece and begin. -/
def leP (x y : Prt) : Prop := x.1 < y.1 ∨ (x.1 = y.1 ∧ x.2.1 ≤ y.2.1)
/-- In order, place by place. -/
def Sorted (l : List Prt) : Prop := ∀ i j (hi : i < l.length) (hj : j < l.length), i ≤ j → leP l[i] l[j]

theorem meets_ahead {x y y' : Prt} (h : aheadP x y = true) (hl : leP y y') : meets x y' = false := by
  unfold leP at hl
  unfold aheadP at h
  simp only [Bool.or_eq_true, Bool.and_eq_true, decide_eq_true_eq, beq_iff_eq] at h
  have : ¬ (x.1 = y'.1 ∧ y'.2.1 ≤ x.2.2) := by omega
  rw [Bool.eq_false_iff]
  intro hm
  unfold meets at hm
  simp only [Bool.and_eq_true, decide_eq_true_eq, beq_iff_eq] at hm
  exact this ⟨hm.1.1, hm.2⟩

theorem meets_comm (x y : Prt) : meets x y = meets y x := by
  rw [Bool.eq_iff_iff]
  simp only [meets, Bool.and_eq_true, decide_eq_true_eq, beq_iff_eq]
  omega

theorem meets_neither {x y : Prt} (h : aheadP x y = false) (h' : aheadP y x = false) : meets x y = true := by
  unfold aheadP at h h'
  simp only [Bool.or_eq_false_iff, Bool.and_eq_false_iff, decide_eq_false_iff_not, beq_eq_false_iff_ne, ne_eq] at h h'
  simp only [meets, Bool.and_eq_true, decide_eq_true_eq, beq_iff_eq]
  omega

def anyMeets (a b : List Prt) : Bool := a.any fun x => b.any (meets x)

theorem anyMeets_iff (a b : List Prt) : anyMeets a b = true ↔ ∃ x ∈ a, ∃ y ∈ b, meets x y = true := by
  simp [anyMeets, List.any_eq_true]

theorem anyMeets_left {a b : List Prt} {i k : Nat} (hi : i < a.length) (hk : k < b.length) (hb : Sorted b) (h : aheadP a[i] b[k] = true) : anyMeets (a.drop i) (b.drop k) = anyMeets (a.drop (i + 1)) (b.drop k) := by
  rw [Bool.eq_iff_iff, anyMeets_iff, anyMeets_iff, List.drop_eq_getElem_cons hi]
  constructor
  · rintro ⟨x, hx, y, hy, hm⟩
    rcases List.mem_cons.1 hx with rfl | hx
    · obtain ⟨n, hn, rfl⟩ := List.getElem_of_mem hy
      rw [List.getElem_drop] at hm
      rw [meets_ahead h (hb k (k + n) hk (by simp at hn; omega) (by omega))] at hm
      cases hm
    · exact ⟨x, hx, y, hy, hm⟩
  · rintro ⟨x, hx, y, hy, hm⟩
    exact ⟨x, List.mem_cons_of_mem _ hx, y, hy, hm⟩

theorem anyMeets_swap (a b : List Prt) : anyMeets a b = anyMeets b a := by
  rw [Bool.eq_iff_iff, anyMeets_iff, anyMeets_iff]
  constructor
  · rintro ⟨x, hx, y, hy, hm⟩
    exact ⟨y, hy, x, hx, by rw [meets_comm]; exact hm⟩
  · rintro ⟨x, hx, y, hy, hm⟩
    exact ⟨y, hy, x, hx, by rw [meets_comm]; exact hm⟩

theorem anyMeets_right {a b : List Prt} {i k : Nat} (hi : i < a.length) (hk : k < b.length) (ha : Sorted a) (h : aheadP b[k] a[i] = true) : anyMeets (a.drop i) (b.drop k) = anyMeets (a.drop i) (b.drop (k + 1)) := by
  rw [anyMeets_swap, anyMeets_left hk hi ha h, anyMeets_swap]

theorem anyMeets_here {a b : List Prt} {i k : Nat} (hi : i < a.length) (hk : k < b.length) (h : aheadP a[i] b[k] = false) (h' : aheadP b[k] a[i] = false) : anyMeets (a.drop i) (b.drop k) = true := by
  rw [anyMeets_iff]
  exact ⟨a[i], by rw [List.drop_eq_getElem_cons hi]; exact List.mem_cons_self, b[k], by rw [List.drop_eq_getElem_cons hk]; exact List.mem_cons_self, meets_neither h h'⟩

theorem anyMeets_end {a b : List Prt} {i k : Nat} (h : a.length ≤ i ∨ b.length ≤ k) : anyMeets (a.drop i) (b.drop k) = false := by
  rcases h with h | h
  · rw [List.drop_eq_nil_of_le h]; rfl
  · rw [List.drop_eq_nil_of_le h, anyMeets_swap]; rfl

theorem anyMeets_perm {a a' b b' : List Prt} (ha : a.Perm a') (hb : b.Perm b') : anyMeets a b = anyMeets a' b' := by
  rw [Bool.eq_iff_iff, anyMeets_iff, anyMeets_iff]
  constructor
  · rintro ⟨x, hx, y, hy, hm⟩
    exact ⟨x, ha.mem_iff.1 hx, y, hb.mem_iff.1 hy, hm⟩
  · rintro ⟨x, hx, y, hy, hm⟩
    exact ⟨x, ha.mem_iff.2 hx, y, hb.mem_iff.2 hy, hm⟩

theorem touchP_any (a b : List Prt) (ha : partsOkP a = true) (hb : partsOkP b = true) : touchP a b = anyMeets a b := by simp [touchP, ha, hb, anyMeets]
end Go.Proofs.YtijdigdcmjdooaaGreat

/- endsAhead, byBegin. Own work. -/
namespace Go.Proofs.YtijdigdcmjdooaaGreat
open Go.RowKit Go.Sort
set_option maxHeartbeats 2000000

def cmpI (x y : Int) : Int := if x < y then -1 else if y < x then 1 else 0
theorem isNaN_any (x : Int) (w : World) : Calls Tryz.prog 94 #[.int .i64 x] w fun e w' => e = .returned (.bool false) ∧ w = w' := by
  have q : (x != x) = false := by simp
  go_enter Tryz.func94, Tryz.ntmps94
  go_wp2_with fail
  go_ret
  exact ⟨ret_b (by simp), rfl⟩
theorem compare_any (x y : Int) (w : World) : Calls Tryz.prog 64 #[.int .i64 x, .int .i64 y] w fun e w' => e = .returned (.int .i64 (cmpI x y)) ∧ w = w' := by
  by_cases h1 : x < y
  · have q1 : decide (x < y) = true := decide_eq_true h1
    have HR := hide (show cmpI x y = -1 by simp [cmpI, h1])
    clear h1
    go_enter Tryz.func64, Tryz.ntmps64
    go_wp2_with (first | (go_at_call 94; refine (isNaN_any _ _).mono ?_; rintro e w1 ⟨rfl, rfl⟩))
    go_ret
    exact ⟨ret_i HR.out.symm, rfl⟩
  · by_cases h2 : y < x
    · have q1 : decide (x < y) = false := decide_eq_false h1
      have q2 : decide (y < x) = true := decide_eq_true h2
      have HR := hide (show cmpI x y = 1 by simp [cmpI, h1, h2])
      clear h1 h2
      go_enter Tryz.func64, Tryz.ntmps64
      go_wp2_with (first | (go_at_call 94; refine (isNaN_any _ _).mono ?_; rintro e w1 ⟨rfl, rfl⟩))
      go_ret
      exact ⟨ret_i HR.out.symm, rfl⟩
    · have q1 : decide (x < y) = false := decide_eq_false h1
      have q2 : decide (y < x) = false := decide_eq_false h2
      have HR := hide (show cmpI x y = 0 by simp [cmpI, h1, h2])
      clear h1 h2
      go_enter Tryz.func64, Tryz.ntmps64
      go_wp2_with (first | (go_at_call 94; refine (isNaN_any _ _).mono ?_; rintro e w1 ⟨rfl, rfl⟩))
      go_ret
      exact ⟨ret_i HR.out.symm, rfl⟩

def or2 (x y : Int) : Int := if x = 0 then y else x
theorem or2_any (b c : Nat) (x y : Int) (w : World) (h0 : w.cell? ⟨b, 0, none⟩ = some (.int .i64 x)) (h1 : w.cell? ⟨b, 1, none⟩ = some (.int .i64 y)) :
    Calls Tryz.prog 63 #[.slice (some ⟨b, 0, none⟩) 2 c] w fun e w' => e = .returned (.int .i64 (or2 x y)) ∧ w = w' := by
  go_enter Tryz.func63, Tryz.ntmps63
  go_wp2_with fail
  go_loop [5, 8] (fun _ i => ∃ k : Nat, k ≤ 2 ∧ i = .int .i64 k ∧ (1 ≤ k → x = 0) ∧ (2 ≤ k → y = 0)) (fun _ i => 2 - (intOf i).toNat)
  case atStart => exact ⟨0, by omega, rfl, by omega, by omega⟩
  case round =>
    obtain ⟨k, hk, rfl, hx, hy⟩ := hrel
    have hkk : k = 0 ∨ k = 1 ∨ k = 2 := by omega
    rcases hkk with rfl | rfl | rfl
    · by_cases hz : x = 0
      · subst hz
        clear hx hy
        go_wp2_with fail
        exact ⟨⟨1, by omega, rfl, fun _ => (by first | trivial | rfl), by omega⟩, by simp [intOf]⟩
      · have q : (x != 0) = true := by rw [bne_iff_ne]; exact hz
        have HR := hide (show or2 x y = x by simp [or2, hz])
        clear hz hx hy
        go_wp2_with fail
        go_ret
        exact ⟨ret_i HR.out.symm, rfl⟩
    · have hx0 := hx (by omega)
      subst hx0
      clear hx hy
      by_cases hz : y = 0
      · subst hz
        go_wp2_with fail
        exact ⟨⟨2, by omega, rfl, fun _ => (by first | trivial | rfl), fun _ => (by first | trivial | rfl)⟩, by simp [intOf]⟩
      · have q : (y != 0) = true := by rw [bne_iff_ne]; exact hz
        have HR := hide (show or2 0 y = y by simp [or2])
        clear hz
        go_wp2_with fail
        go_ret
        exact ⟨ret_i HR.out.symm, rfl⟩
    · have hx0 := hx (by omega)
      have hy0 := hy (by omega)
      subst hx0
      subst hy0
      clear hx hy
      go_wp2_with fail
      go_ret
      exact ⟨ret_i (by simp [or2]), rfl⟩

/-- What byBegin answers. -/
def byP (x y : Prt) : Int := or2 (cmpI x.1 y.1) (cmpI x.2.1 y.2.1)

abbrev BG (W wx : World) (x y : Prt) : Prop := (wx.cell? ⟨W.heap.size, 0, none⟩ = some (.int .i64 x.1) ∧ wx.cell? ⟨W.heap.size, 1, none⟩ = some (.int .i64 x.2.1) ∧ wx.cell? ⟨W.heap.size + 1, 0, none⟩ = some (.int .i64 y.1) ∧ wx.cell? ⟨W.heap.size + 1, 1, none⟩ = some (.int .i64 y.2.1)) ∧ Hid (∃ q os', wx = grow (W.drewN q) os')
theorem BG.alloc {W wx : World} {x y : Prt} (h : BG W wx x y) (o : Obj) : BG W (wx.alloc o) x y := by
  have hb := (Below.refl wx.heap.size wx).alloc (Nat.le_refl _) o
  refine ⟨⟨cell_later' hb h.1.1, cell_later' hb h.1.2.1, cell_later' hb h.1.2.2.1, cell_later' hb h.1.2.2.2⟩, ?_⟩
  obtain ⟨q, os', e⟩ := h.2.out
  exact ⟨q, os' ++ #[o], by rw [e, alloc_eq_grow, grow_grow]⟩

theorem BG.alloc_d {W wx : World} {x y : Prt} (h : BG W wx.drew x y) (o : Obj) : BG W (wx.alloc o).drew x y := h.alloc o

end Go.Proofs.YtijdigdcmjdooaaGreat

/- endsAhead, byBegin. Own work. -/
import Derived.Test.YtplnppdlabpodaaTcA
import Derived.Test.YtplnppdlabpodaaLwK
import Derived.Sort.Grow
namespace Go.Proofs.Ytplnppdlabpodaa
open Go.RowKit Go.Sort
set_option maxHeartbeats 2000000

theorem endsAhead_any (x y : Prt) (w : World) :
    Calls Try.prog 97 #[.agg #[.int .i64 x.1, .int .i64 x.2.1, .int .i64 x.2.2], .agg #[.int .i64 y.1, .int .i64 y.2.1, .int .i64 y.2.2]] w fun e w' => e = .returned (.bool (aheadP x y)) ∧ Below w.heap.size w w' := by
  obtain ⟨x0, x1, x2⟩ := x
  obtain ⟨y0, y1, y2⟩ := y
  have hbW : Below w.heap.size w ((w.alloc (.cells #[.int .i64 x0, .int .i64 x1, .int .i64 x2] 119)).alloc (.cells #[.int .i64 y0, .int .i64 y1, .int .i64 y2] 119)) := ((Below.refl _ _).alloc (Nat.le_refl _) _).alloc (by simp) _
  by_cases h1 : x0 < y0
  · have q1 : decide (x0 < y0) = true := decide_eq_true h1
    have HR := hide (show aheadP (x0, x1, x2) (y0, y1, y2) = true by simp [aheadP, h1])
    clear h1
    go_enter Try.func97, Try.ntmps97
    go_wp2_with fail
    go_ret
    exact ⟨ret_b HR.out.symm, hbW⟩
  · have q1 : decide (x0 < y0) = false := decide_eq_false h1
    by_cases h2 : x0 = y0
    · have q2 : (x0 == y0) = true := by rw [beq_iff_eq]; exact h2
      have HR := hide (show aheadP (x0, x1, x2) (y0, y1, y2) = decide (x2 < y1) by simp [aheadP, h2])
      clear h1 h2
      go_enter Try.func97, Try.ntmps97
      go_wp2_with fail
      go_ret
      exact ⟨ret_b HR.out.symm, hbW⟩
    · have q2 : (x0 == y0) = false := by rw [beq_eq_false_iff_ne]; exact h2
      have HR := hide (show aheadP (x0, x1, x2) (y0, y1, y2) = false by simp [aheadP, h1, h2])
      clear h1 h2
      go_enter Try.func97, Try.ntmps97
      go_wp2_with fail
      go_ret
      exact ⟨ret_b HR.out.symm, hbW⟩

def cmpI (x y : Int) : Int := if x < y then -1 else if y < x then 1 else 0
theorem isNaN_any (x : Int) (w : World) : Calls Try.prog 156 #[.int .i64 x] w fun e w' => e = .returned (.bool false) ∧ w = w' := by
  have q : (x != x) = false := by simp
  go_enter Try.func156, Try.ntmps156
  go_wp2_with fail
  go_ret
  exact ⟨ret_b (by simp), rfl⟩
theorem compare_any (x y : Int) (w : World) : Calls Try.prog 137 #[.int .i64 x, .int .i64 y] w fun e w' => e = .returned (.int .i64 (cmpI x y)) ∧ w = w' := by
  by_cases h1 : x < y
  · have q1 : decide (x < y) = true := decide_eq_true h1
    have HR := hide (show cmpI x y = -1 by simp [cmpI, h1])
    clear h1
    go_enter Try.func137, Try.ntmps137
    go_wp2_with (first | (go_at_call 156; refine (isNaN_any _ _).mono ?_; rintro e w1 ⟨rfl, rfl⟩))
    go_ret
    exact ⟨ret_i HR.out.symm, rfl⟩
  · by_cases h2 : y < x
    · have q1 : decide (x < y) = false := decide_eq_false h1
      have q2 : decide (y < x) = true := decide_eq_true h2
      have HR := hide (show cmpI x y = 1 by simp [cmpI, h1, h2])
      clear h1 h2
      go_enter Try.func137, Try.ntmps137
      go_wp2_with (first | (go_at_call 156; refine (isNaN_any _ _).mono ?_; rintro e w1 ⟨rfl, rfl⟩))
      go_ret
      exact ⟨ret_i HR.out.symm, rfl⟩
    · have q1 : decide (x < y) = false := decide_eq_false h1
      have q2 : decide (y < x) = false := decide_eq_false h2
      have HR := hide (show cmpI x y = 0 by simp [cmpI, h1, h2])
      clear h1 h2
      go_enter Try.func137, Try.ntmps137
      go_wp2_with (first | (go_at_call 156; refine (isNaN_any _ _).mono ?_; rintro e w1 ⟨rfl, rfl⟩))
      go_ret
      exact ⟨ret_i HR.out.symm, rfl⟩

def or2 (x y : Int) : Int := if x = 0 then y else x
theorem or2_any (b c : Nat) (x y : Int) (w : World) (h0 : w.cell? ⟨b, 0, none⟩ = some (.int .i64 x)) (h1 : w.cell? ⟨b, 1, none⟩ = some (.int .i64 y)) :
    Calls Try.prog 136 #[.slice (some ⟨b, 0, none⟩) 2 c] w fun e w' => e = .returned (.int .i64 (or2 x y)) ∧ w = w' := by
  go_enter Try.func136, Try.ntmps136
  go_wp2_with fail
  go_loop [5, 8] (fun _ i => ∃ k : Nat, k ≤ 2 ∧ i = .int .i64 k ∧ (1 ≤ k → x = 0) ∧ (2 ≤ k → y = 0)) (fun _ i => 2 - (intOf i).toNat)
  case atStart => exact ⟨0, by omega, rfl, by omega, by omega⟩
  case round =>
    obtain ⟨k, hk, rfl, hx, hy⟩ := hrel
    have hkk : k = 0 ∨ k = 1 ∨ k = 2 := by omega
    rcases hkk with rfl | rfl | rfl
    · by_cases hz : x = 0
      · subst hz
        clear hx hy
        go_wp2_with fail
        exact ⟨⟨1, by omega, rfl, fun _ => (by first | trivial | rfl), by omega⟩, by simp [intOf]⟩
      · have q : (x != 0) = true := by rw [bne_iff_ne]; exact hz
        have HR := hide (show or2 x y = x by simp [or2, hz])
        clear hz hx hy
        go_wp2_with fail
        go_ret
        exact ⟨ret_i HR.out.symm, rfl⟩
    · have hx0 := hx (by omega)
      subst hx0
      clear hx hy
      by_cases hz : y = 0
      · subst hz
        go_wp2_with fail
        exact ⟨⟨2, by omega, rfl, fun _ => (by first | trivial | rfl), fun _ => (by first | trivial | rfl)⟩, by simp [intOf]⟩
      · have q : (y != 0) = true := by rw [bne_iff_ne]; exact hz
        have HR := hide (show or2 0 y = y by simp [or2])
        clear hz
        go_wp2_with fail
        go_ret
        exact ⟨ret_i HR.out.symm, rfl⟩
    · have hx0 := hx (by omega)
      have hy0 := hy (by omega)
      subst hx0
      subst hy0
      clear hx hy
      go_wp2_with fail
      go_ret
      exact ⟨ret_i (by simp [or2]), rfl⟩

/-- What byBegin answers. -/
def byP (x y : Prt) : Int := or2 (cmpI x.1 y.1) (cmpI x.2.1 y.2.1)

abbrev BG (W wx : World) (x y : Prt) : Prop := (wx.cell? ⟨W.heap.size, 0, none⟩ = some (.int .i64 x.1) ∧ wx.cell? ⟨W.heap.size, 1, none⟩ = some (.int .i64 x.2.1) ∧ wx.cell? ⟨W.heap.size + 1, 0, none⟩ = some (.int .i64 y.1) ∧ wx.cell? ⟨W.heap.size + 1, 1, none⟩ = some (.int .i64 y.2.1)) ∧ Hid (∃ q os', wx = grow (W.drewN q) os')
theorem BG.alloc {W wx : World} {x y : Prt} (h : BG W wx x y) (o : Obj) : BG W (wx.alloc o) x y := by
  have hb := (Below.refl wx.heap.size wx).alloc (Nat.le_refl _) o
  refine ⟨⟨cell_later' hb h.1.1, cell_later' hb h.1.2.1, cell_later' hb h.1.2.2.1, cell_later' hb h.1.2.2.2⟩, ?_⟩
  obtain ⟨q, os', e⟩ := h.2.out
  exact ⟨q, os' ++ #[o], by rw [e, alloc_eq_grow, grow_grow]⟩

theorem BG.alloc_d {W wx : World} {x y : Prt} (h : BG W wx.drew x y) (o : Obj) : BG W (wx.alloc o).drew x y := h.alloc o

theorem byBegin_any (x y : Prt) (W : World) :
    Calls Try.prog 125 #[.agg #[.int .i64 x.1, .int .i64 x.2.1, .int .i64 x.2.2], .agg #[.int .i64 y.1, .int .i64 y.2.1, .int .i64 y.2.2]] W fun e w' => e = .returned (.int .i64 (byP x y)) ∧ ∃ q os', w' = grow (W.drewN q) os' := by
  obtain ⟨x0, x1, x2⟩ := x
  obtain ⟨y0, y1, y2⟩ := y
  have hBG : BG W ((W.alloc (.cells #[.int .i64 x0, .int .i64 x1, .int .i64 x2] 119)).alloc (.cells #[.int .i64 y0, .int .i64 y1, .int .i64 y2] 119)).drew (x0, x1, x2) (y0, y1, y2) :=
    ⟨⟨by simp [go_sem], by simp [go_sem], by simp [go_sem], by simp [go_sem]⟩, 1, #[_] ++ #[_], by rw [alloc_eq_grow, alloc_eq_grow, grow_grow]; rfl⟩
  have HBG := hide hBG
  clear hBG
  go_enter Try.func125, Try.ntmps125
  go_upto_region 1 with fail
  generalize ((W.alloc (.cells #[.int .i64 x0, .int .i64 x1, .int .i64 x2] 119)).alloc (.cells #[.int .i64 y0, .int .i64 y1, .int .i64 y2] 119)) = w1 at *
  go_region_held3 (fun wx => BG W wx (x0, x1, x2) (y0, y1, y2))
    (first
      | (with_reducible exact HBG.out)
      | (with_reducible assumption)
      | (with_reducible exact BG.alloc (by assumption) _)
      | (with_reducible exact BG.alloc_d HBG.out _))
    (first
      | (go_at_call 137; refine (compare_any _ _ _).mono ?_; rintro e w2 ⟨rfl, rfl⟩)
      | (go_at_call 136; refine (or2_any w1.heap.size _ (cmpI x0 y0) (cmpI x1 y1) (w1.alloc (.cells #[.int .i64 (cmpI x0 y0), .int .i64 (cmpI x1 y1)] 3)).drew (new_cell w1 #[.int .i64 (cmpI x0 y0), .int .i64 (cmpI x1 y1)] 3 0 _ rfl) (new_cell w1 #[.int .i64 (cmpI x0 y0), .int .i64 (cmpI x1 y1)] 3 1 _ rfl)).mono ?_; rintro e w2 ⟨rfl, rfl⟩))
  all_goals
    rename_i hH
    have HH := hide hH
    clear hH
    go_wp2_with fail
    go_ret
    exact ⟨rfl, HH.out.2.out⟩
end Go.Proofs.Ytplnppdlabpodaa

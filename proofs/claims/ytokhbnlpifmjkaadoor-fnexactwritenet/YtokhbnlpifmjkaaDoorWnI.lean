/- impl's writers: numbers, words, lines. Own work. -/
import Derived.Test.YtokhbnlpifmjkaaDoorWnP
import Derived.Test.YtokhbnlpifmjkaaDoorImB
import Derived.Test.YtokhbnlpifmjkaaDoorSh
import Derived.Deep.RegionHeld3
import Derived.Deep.AppendLies
import Derived.Lib.SmallJoins
import Derived.Lib.AppendIntMem
import Derived.Shelf.Strings.MapGrows
namespace Go.Proofs.YtokhbnlpifmjkaaDoor
open Go.RowKit
set_option maxHeartbeats 2000000

/-- The library's table of powers lies as it was laid. -/
def Tab (w : World) : Prop := Lib.TabIs Tryd.prog w "internal/strconv.uint64pow10" .u64 Lib.pow10Tab
theorem tab_named : Tryd.prog.globalNamed "internal/strconv.uint64pow10" = some 1 := by kernel_rfl
theorem Tab.later {w w' : World} (h : Tab w) (hb : Below w.heap.size w w') : Tab w' := Go.Joins.tab_stays tab_named h hb (Nat.le_refl _)

theorem ba_ext {a b : ByteArray} (h : a.data.toList = b.data.toList) : a = b := by
  have : a.data = b.data := by rw [← Array.toArray_toList (xs := a.data), ← Array.toArray_toList (xs := b.data), h]
  cases a; cases b; simp_all

theorem md_digits (f : Nat) : ∀ (u : Nat) (s : ByteArray), u < f → (md f (u : Int) s).data.toList = (if u = 0 then [] else Lib.decDigits u) ++ s.data.toList := by
  induction f with
  | zero => intro u s h; omega
  | succ f ih =>
    intro u s h
    rw [md]
    by_cases h0 : u = 0
    · subst h0; simp
    · rw [if_neg (by omega), if_neg h0]
      have e : ((u : Int) / 10) = ((u / 10 : Nat) : Int) := by omega
      rw [e, ih (u / 10) _ (by omega)]
      have e2 : ((48 : Int) + (u : Int) % 10).toNat = 48 + u % 10 := by omega
      rw [e2]
      conv => rhs; rw [Lib.decDigits]
      by_cases h10 : u < 10
      · rw [dif_pos h10, if_pos (by omega), Nat.mod_eq_of_lt h10]
        simp [ByteArray.data_append]
      · rw [dif_neg h10, if_neg (by omega)]
        simp [ByteArray.data_append]

theorem itoa_dtext (n : Int) (h : 0 ≤ n) : (⟨(Lib.itoa n).toArray⟩ : ByteArray) = dtext n := by
  apply ba_ext
  unfold Lib.itoa dtext
  rw [if_neg (by omega)]
  by_cases h0 : n = 0
  · subst h0; rw [if_pos rfl]; simp [Lib.decDigits]
  · rw [if_neg h0]
    have := md_digits (n.toNat + 1) n.toNat ⟨#[]⟩ (by omega)
    rw [show ((n.toNat : Nat) : Int) = n by omega] at this
    rw [this, if_neg (by omega)]
    simp

theorem itoa_any (n : Int) (w : World) (h0 : 0 ≤ n) (h1 : n ≤ 10000000) (ht : Tab w) :
    Calls Tryd.prog 35 #[.int .i64 n] w fun e w' => e = .returned (.string (dtext n)) ∧ Below w.heap.size w w' := by
  refine (Tryd.strconv_Itoa n (by omega) (by omega) w ht).mono ?_
  rintro e w' ⟨rfl, k, os, rfl⟩
  exact ⟨by rw [itoa_dtext n h0], Lib.below_grow _ _ (Nat.le_refl _) _ _⟩

theorem jointWord_any (k : Int) (h : k = 1 ∨ k = 2 ∨ k = 3 ∨ k = 4) (w : World) :
    Calls Tryd.prog 36 #[.int .i64 k] w fun e w' => e = .returned (.string (kw k)) ∧ w = w' := by
  rcases h with rfl | rfl | rfl | rfl <;>
  · go_enter Tryd.func36, Tryd.ntmps36
    go_wp2
    go_ret
    exact ⟨rfl, rfl⟩

/-- A slice of strings. -/
def StrsAt (w : World) (g : Nat) (xs : List ByteArray) : Prop := ∀ (j : Nat) x, xs[j]? = some x → w.cell? ⟨g, 0 + j, none⟩ = some (.string x)
theorem StrsAt.later {w w' : World} {g : Nat} {xs : List ByteArray} (h : StrsAt w g xs) (hb : Below w.heap.size w w') : StrsAt w' g xs :=
  fun j x hx => cell_later' hb (h j x hx)

def pWords (p : Pc) : List ByteArray := [⟨#[112, 105, 101, 99, 101]⟩, p.name, dtext p.len, ⟨#[115, 112, 101, 101, 100]⟩, dtext p.speed, ⟨#[98, 114, 97, 107, 101]⟩, dtext p.brake]

theorem keepP {w1 w2 W0 : World} {b0 b1 b2 b3 o0 o1 o2 o3 : Nat} {x0 x1 x2 x3 : Value} (hb : Below w1.heap.size w1 w2)
    (h : (w1.cell? ⟨b0, o0, none⟩ = some x0 ∧ w1.cell? ⟨b1, o1, none⟩ = some x1 ∧ w1.cell? ⟨b2, o2, none⟩ = some x2 ∧ w1.cell? ⟨b3, o3, none⟩ = some x3) ∧ Hid (Tab w1 ∧ Below W0.heap.size W0 w1)) :
    (w2.cell? ⟨b0, o0, none⟩ = some x0 ∧ w2.cell? ⟨b1, o1, none⟩ = some x1 ∧ w2.cell? ⟨b2, o2, none⟩ = some x2 ∧ w2.cell? ⟨b3, o3, none⟩ = some x3) ∧ Hid (Tab w2 ∧ Below W0.heap.size W0 w2) :=
  ⟨⟨cell_later' hb h.1.1, cell_later' hb h.1.2.1, cell_later' hb h.1.2.2.1, cell_later' hb h.1.2.2.2⟩, h.2.out.1.later hb, h.2.out.2.trans (hb.mono h.2.out.2.size)⟩

theorem heldTab {p : Prop} {w1 W0 : World} (h : p ∧ Hid (Tab w1 ∧ Below W0.heap.size W0 w1)) : Tab w1 := h.2.out.1

set_option maxRecDepth 20000 in
theorem pieceWords_any (p : Pc) (w : World) (hok : p.ok = true) (ht : Tab w) :
    Calls Tryd.prog 17 #[p.val] w fun e w' =>
    ∃ g, e = .returned (.slice (some ⟨g, 0, none⟩) 7 7) ∧ StrsAt w' g (pWords p) ∧ g < w'.heap.size ∧ Below w.heap.size w w' := by
  have hpb := pc_ok_bounds hok
  have HT := hide ht
  clear ht hok
  obtain ⟨pn, pl, ps, pb⟩ := p
  dsimp only at hpb
  unfold Pc.val
  dsimp only
  have hl0 : 0 ≤ pl ∧ pl ≤ 10000000 := by omega
  have hs0 : 0 ≤ ps ∧ ps ≤ 10000000 := by omega
  have hb0 : 0 ≤ pb ∧ pb ≤ 10000000 := by omega
  have hbA : Below w.heap.size w (w.alloc (.cells #[.string pn, .int .i64 pl, .int .i64 ps, .int .i64 pb] 39)).drew := ((Below.refl _ _).alloc (Nat.le_refl _) _).drew
  go_enter Tryd.func17, Tryd.ntmps17
  go_wp2_with fail
  go_region_held3 (fun w' => (w'.cell? ⟨w.heap.size, 0, none⟩ = some (.string pn) ∧ w'.cell? ⟨w.heap.size, 1, none⟩ = some (.int .i64 pl) ∧ w'.cell? ⟨w.heap.size, 2, none⟩ = some (.int .i64 ps) ∧ w'.cell? ⟨w.heap.size, 3, none⟩ = some (.int .i64 pb)) ∧ Hid (Tab w' ∧ Below w.heap.size w w'))
    (first
      | (exact ⟨⟨by simp [go_sem], by simp [go_sem], by simp [go_sem], by simp [go_sem]⟩, HT.out.later hbA, hbA⟩)
      | (exact keepP (by assumption) (by assumption))
      | (exact keepP ((Below.refl _ _).alloc (Nat.le_refl _) _) (by assumption)))
    (first
      | (go_at_call 35; refine (itoa_any _ _ ?_ ?_ (heldTab (by assumption))).mono ?_; omega; omega; rintro e w' ⟨rfl, hbc⟩))
  rename_i hbc w' hH
  obtain ⟨_, hH2⟩ := hH
  have hB := hH2.out.2
  clear hH2
  go_wp2_with fail
  go_ret
  refine ⟨_, rfl, ?_, by simp, hB⟩
  intro j x hx
  rw [Nat.zero_add]
  rcases j with _ | _ | _ | _ | _ | _ | _ | j <;> simp [pWords] at hx <;> subst hx <;> simp [go_sem]
end Go.Proofs.YtokhbnlpifmjkaaDoor

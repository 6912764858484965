/- ASpot, Lies, wByte, wWhole. Own work. -/
import Derived.Test.YteapmddadieohaaMxAH
namespace Go.Proofs.Yteapmddadieohaa
open Go.RowKit
set_option maxHeartbeats 2000000

/-! ### Plain -/
def spotQ (N : Nt) (code : List Int) : Int := pickV code N.pcs.length ⟨0, 0⟩
def spotA (N : Nt) (code : List Int) : Int := wideV code (lenAt N (spotQ N code) + 1) (pickC code N.pcs.length ⟨0, 0⟩)
def spotW (N : Nt) (code : List Int) : Int := 1 - 2 * pickV code 2 (wideC code (pickC code N.pcs.length ⟨0, 0⟩))
theorem spotW_way (N : Nt) (code : List Int) : spotW N code = 1 ∨ spotW N code = -1 := by
  unfold spotW
  have := pickV_bd (code := code) (n := 2) (by omega) (wideC code (pickC code N.pcs.length ⟨0, 0⟩))
  omega
theorem spot_drawn {N : Nt} (h : NetBd N) (code : List Int) : spotP N (spotQ N code) (spotA N code) (spotW N code) = true := by
  have h1 := pickV_bd (code := code) (n := (N.pcs.length : Int)) (by have := h.some; omega) ⟨0, 0⟩
  have hq : 0 ≤ spotQ N code ∧ spotQ N code < N.pcs.length := h1
  obtain ⟨k, hk⟩ := Int.eq_ofNat_of_zero_le hq.1
  have hl := h.len_at (k := k) (by omega)
  rw [← hk] at hl
  have h2 := wideV_bd (code := code) (n := lenAt N (spotQ N code) + 1) (by omega) (pickC code N.pcs.length ⟨0, 0⟩)
  have ha : 0 ≤ spotA N code ∧ spotA N code < lenAt N (spotQ N code) + 1 := h2
  simp only [spotP, inR, Bool.and_eq_true, Bool.or_eq_true, beq_iff_eq, decide_eq_true_eq]
  exact ⟨⟨⟨hq.1, by omega⟩, spotW_way N code⟩, ha.1, by omega⟩
instance : Inhabited Jt := ⟨⟨0, ⟨#[]⟩, []⟩⟩
def liesD (code : List Int) (js : List Jt) : Nat → List Int × Cu
  | 0 => ([], ⟨0, 0⟩)
  | i + 1 => if (js[i]!).kind = 3 then ((liesD code js i).1 ++ [1 + pickV code 2 (liesD code js i).2], pickC code 2 (liesD code js i).2) else ((liesD code js i).1 ++ [0], (liesD code js i).2)
theorem liesD_len (code : List Int) (js : List Jt) (i : Nat) : (liesD code js i).1.length = i := by
  induction i with
  | zero => rfl
  | succ i ih => rw [liesD]; split <;> simp [ih]
theorem liesD_at (code : List Int) (js : List Jt) (i : Nat) : (liesD code js i).2.at' ≤ 2 * i := by
  induction i with
  | zero => exact Nat.le_refl _
  | succ i ih =>
    rw [liesD]
    split
    · have := pickC_at code 2 (liesD code js i).2
      dsimp only
      omega
    · dsimp only; omega
def liesL (N : Nt) (code : List Int) : List Int := (liesD code N.jts N.jts.length).1
def byteP (code : List Int) (i : Nat) : Int := if code.length = 0 then 0 else code[i % code.length]!
theorem byteP_bd {code : List Int} (h : Bys code) (i : Nat) : 0 ≤ byteP code i ∧ byteP code i < 256 := by
  unfold byteP
  split
  · omega
  · have hl : i % code.length < code.length := Nat.mod_lt _ (by omega)
    have : code[i % code.length]! = code[i % code.length] := by simp [hl]
    rw [this]
    exact h _ (List.getElem_mem hl)
def wholeP (code : List Int) (i : Nat) : Int := (byteP code i + 256 * byteP code (i + 1)) % (1 + 40 * byteP code (i + 2))
theorem wholeP_bd {code : List Int} (h : Bys code) (i : Nat) : 0 ≤ wholeP code i ∧ wholeP code i ≤ 10200 := by
  have h1 := byteP_bd h (i + 2)
  unfold wholeP
  have h2 := Int.emod_nonneg (byteP code i + 256 * byteP code (i + 1)) (b := 1 + 40 * byteP code (i + 2)) (by omega)
  have h3 := Int.emod_lt_of_pos (byteP code i + 256 * byteP code (i + 1)) (b := 1 + 40 * byteP code (i + 2)) (by omega)
  omega

/-! ### Walks -/
theorem wByte_any (a : Option Addr) (cap : Nat) (code : List Int) (i : Nat) (w : World) (hB : Bys code) (hn : code.length ≤ 1048576) (hi : i ≤ 1000) (hx : BytesAt w a code) :
    Calls Try.prog 15 #[.slice a code.length cap, .int .i64 i] w fun e w' => e = .returned (.int .i64 (byteP code i)) ∧ w = w' := by
  by_cases h0 : code.length = 0
  · have HV := hide (show byteP code i = 0 by unfold byteP; rw [if_pos h0])
    have q0 : ((code.length : Int) == 0) = true := by rw [beq_iff_eq]; omega
    clear hx hB
    go_enter Try.func15, Try.ntmps15
    go_wp2_with fail
    go_ret
    exact ⟨ret_i HV.out.symm, rfl⟩
  · have hl : i % code.length < code.length := Nat.mod_lt _ (by omega)
    have HV := hide (show byteP code i = code[i % code.length] by unfold byteP; rw [if_neg h0]; simp [hl])
    have q0 : ((code.length : Int) == 0) = false := by rw [beq_eq_false_iff_ne]; omega
    have hbd := hB _ (List.getElem_mem hl)
    obtain ⟨xb, xo, rfl, x0⟩ := hx _ hl
    have hmod : ((i : Int) % (code.length : Int)) = ((i % code.length : Nat) : Int) := by omega
    have htm : Int.tmod (i : Int) (code.length : Int) = ((i % code.length : Nat) : Int) := by rw [Int.tmod_eq_emod_of_nonneg (by omega)]; exact hmod
    generalize hm : i % code.length = m at *
    generalize code[m] = v at *
    have hne : ¬ (code.length : Int) = 0 := by omega
    clear hx hB hm
    go_enter Try.func15, Try.ntmps15
    go_wp2_with fail
    go_ret
    exact ⟨ret_i HV.out.symm, rfl⟩

theorem wWhole_any (a : Option Addr) (cap : Nat) (code : List Int) (i : Nat) (w : World) (hB : Bys code) (hn : code.length ≤ 1048576) (hi : i ≤ 900) (hx : BytesAt w a code) :
    Calls Try.prog 9 #[.slice a code.length cap, .int .i64 i] w fun e w' => e = .returned (.int .i64 (wholeP code i)) ∧ w = w' := by
  have HB := hide hB
  have HX := hide hx
  have HV := hide (show wholeP code i = (byteP code i + 256 * byteP code (i + 1)) % (1 + 40 * byteP code (i + 2)) from rfl)
  have b0 := byteP_bd hB i
  have b1 := byteP_bd hB (i + 1)
  have b2 := byteP_bd hB (i + 2)
  clear hB hx
  go_enter Try.func9, Try.ntmps9
  go_wp2_with fail
  refine (wByte_any a cap code i _ HB.out hn (by omega) HX.out).mono ?_
  rintro e w1 ⟨rfl, rfl⟩
  generalize byteP code i = x0 at *
  go_wp2_with fail
  rw [show (i : Int) + 1 = ((i + 1 : Nat) : Int) by omega]
  refine (wByte_any a cap code (i + 1) _ HB.out hn (by omega) HX.out).mono ?_
  rintro e w1 ⟨rfl, rfl⟩
  generalize byteP code (i + 1) = x1 at *
  go_wp2_with fail
  rw [show (i : Int) + 2 = ((i + 2 : Nat) : Int) by omega]
  refine (wByte_any a cap code (i + 2) _ HB.out hn (by omega) HX.out).mono ?_
  rintro e w1 ⟨rfl, rfl⟩
  generalize byteP code (i + 2) = x2 at *
  have hne : ¬ (1 + 40 * x2) = 0 := by omega
  go_wp2_with fail
  go_ret
  exact ⟨ret_i HV.out.symm, rfl⟩
end Go.Proofs.Yteapmddadieohaa

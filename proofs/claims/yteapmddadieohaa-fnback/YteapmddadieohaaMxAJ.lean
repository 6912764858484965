/- What the laws on drives ask of Drive's answers: plain. Own work. -/
import Derived.Test.YteapmddadieohaaDvC
import Derived.Test.YteapmddadieohaaMxAD
import Derived.Deep.Light
namespace Go.Proofs.Yteapmddadieohaa

theorem good_far {N : Nt} {xs : List Int} {q a wy A B : Int} (hA : 0 ≤ A ∧ A ≤ 1000000) (hB : 0 ≤ B ∧ B ≤ 1000000) : goodP N xs q a wy A = goodP N xs q a wy B := by
  have h1 : inR A 0 1000000 = true := by simp [inR]; omega
  have h2 : inR B 0 1000000 = true := by simp [inR]; omega
  unfold goodP
  rw [h1, h2]
theorem good_mk {N : Nt} {xs : List Int} {q a wy far : Int} (h1 : netOk N = (0, 0)) (h2 : liesP N.jts xs = true) (h3 : spotP N q a wy = true) (h4 : 0 ≤ far ∧ far ≤ 1000000) : goodP N xs q a wy far = true := by
  have : inR far 0 1000000 = true := by simp [inR]; omega
  simp [goodP, h1, h2, h3, this]
theorem driveA_code {N : Nt} {xs : List Int} {q a wy far : Int} {r : DRes} (h : DriveA N xs q a wy far r) (hc : ¬ r.code = 4) : goodP N xs q a wy far = true := by
  unfold DriveA at h
  split at h
  · assumption
  · rw [h] at hc; exact absurd rfl hc

/-- A drive that ended early ends there also where it should have gone farther. -/
theorem top_early {N : Nt} {xs : List Int} {q a wy A B : Int} {r r2 : DRes} (hA : 0 ≤ A ∧ A ≤ 100000) (hB : 0 ≤ B ∧ B ≤ 100000) (h : DriveA N xs q a wy A r) (h2 : DriveA N xs q a wy (A + B) r2) (hc : ¬ r.code = 0) : r2 = r := by
  have hg := good_far (N := N) (xs := xs) (q := q) (a := a) (wy := wy) (A := A) (B := A + B) (by omega) (by omega)
  unfold DriveA at h h2
  rw [← hg] at h2
  split at h
  · rename_i hgood
    rw [if_pos hgood] at h2
    obtain ⟨r0, h0, rfl⟩ := h
    obtain ⟨r1, h1, rfl⟩ := h2
    have := drive_one (good_all hgood).1 (drive_early (by omega) h0 hc) h1
    rw [this]
  · rename_i hgood
    rw [if_neg hgood] at h2
    rw [h, h2]

theorem top_on {N : Nt} {xs : List Int} {q a wy A B : Int} {r r2 r3 : DRes} (hA : 0 ≤ A ∧ A ≤ 100000) (hB : 0 ≤ B ∧ B ≤ 100000) (h : DriveA N xs q a wy A r) (h2 : DriveA N xs q a wy (A + B) r2) (h3 : DriveA N xs r.q r.at' r.way B r3) (hc : r.code = 0) :
    r.far = A ∧ (¬ r3.code = 5 → ¬ r2.code = 5 → r3.code = r2.code ∧ r3.q = r2.q ∧ r3.at' = r2.at' ∧ r3.way = r2.way ∧ r3.joint = r2.joint ∧ r3.far + A = r2.far) := by
  have hgood := driveA_code h (by rw [hc]; omega)
  obtain ⟨g1, g2, g3, _⟩ := good_all hgood
  have hgB : goodP N xs q a wy (A + B) = true := good_mk g1 g2 g3 (by omega)
  unfold DriveA at h h2 h3
  rw [if_pos hgood] at h
  rw [if_pos hgB] at h2
  obtain ⟨x, hx, rfl⟩ := h
  obtain ⟨y, hy, rfl⟩ := h2
  dsimp only at hc h3 ⊢
  obtain ⟨s1, s2, s3, s4⟩ := drive_spot g1 g2 hx g3 hA.1
  rw [if_pos (good_mk g1 g2 s1 (by omega))] at h3
  obtain ⟨z, hz, rfl⟩ := h3
  refine ⟨(s4 hc).1, fun h5 h5' => ?_⟩
  have := drive_on (z := z) (y := y) g1 g2 hA.1 hB.1 g3 hx hy hz hc h5 h5'
  exact this

/-- Where a drive comes to is within bounds. -/
theorem driveA_spot {N : Nt} {xs : List Int} {q a wy far : Int} {r : DRes} (h : DriveA N xs q a wy far r) (hc : ¬ r.code = 4) : spotP N r.q r.at' r.way = true ∧ 0 ≤ r.far ∧ r.far ≤ far := by
  have hgood := driveA_code h hc
  obtain ⟨g1, g2, g3, g4⟩ := good_all hgood
  unfold DriveA at h
  rw [if_pos hgood] at h
  obtain ⟨x, hx, rfl⟩ := h
  obtain ⟨s1, s2, s3, _⟩ := drive_spot g1 g2 hx g3 g4.1
  exact ⟨s1, s2, s3⟩

/-- To drive, turn and drive as far is to come back. -/
theorem back_home {N : Nt} {xs : List Int} {q a wy far : Int} {x y : DRes} (h : DriveA N xs q a wy far x) (hc : ¬ x.code = 4) (hrm : ¬ roomP N q a wy = 0) (hy : DriveA N xs x.q x.at' (-x.way) x.far y) :
    y.code = 0 ∧ y.far = x.far ∧ y.q = q ∧ y.at' = a ∧ y.way = -wy := by
  have hgood := driveA_code h hc
  obtain ⟨g1, g2, g3, g4⟩ := good_all hgood
  obtain ⟨s1, s2, s3⟩ := driveA_spot h hc
  unfold DriveA at h hy
  rw [if_pos hgood] at h
  obtain ⟨x0, hx, rfl⟩ := h
  dsimp only at hy s1 s2 s3 ⊢
  rw [if_pos (good_mk g1 g2 (spot_turn s1) (by omega))] at hy
  obtain ⟨y0, hy0, rfl⟩ := hy
  have := drive_home (y := y0) g1 g2 g4.1 g3 hrm hx hy0
  exact this
end Go.Proofs.Yteapmddadieohaa

namespace Go.Proofs.Yteapmddadieohaa
open Go.RowKit
set_option maxHeartbeats 400000

theorem inRange_any (x a b : Int) (w : World) : Calls Try.prog 29 #[.int .i64 x, .int .i64 a, .int .i64 b] w fun e w' =>
    e = .returned (.bool (inR x a b)) ∧ w = w' := by
  by_cases h : a ≤ x
  all_goals
    go_enter Try.func29, Try.ntmps29
    go_wp2
    go_ret
    exact ⟨ret_b (by simp [inR]; try omega), rfl⟩

theorem nameByte_any (c : UInt8) (w : World) : Calls Try.prog 69 #[.int .u8 (c.toNat : Int)] w fun e w' =>
    e = .returned (.bool (byteOk c)) ∧ w = w' := by
  unfold byteOk
  generalize (c.toNat : Int) = x
  go_enter Try.func69, Try.ntmps69
  go_wp2
  all_goals go_ret
  all_goals refine ⟨ret_b ?_, rfl⟩
  all_goals go_light
  all_goals first | rfl | (rw [Bool.eq_iff_iff]; simp; omega)

theorem nameOk_any (s : ByteArray) (w : World) (hs : s.size ≤ 1048576) : Calls Try.prog 67 #[.string s] w fun e w' =>
    e = .returned (.bool (nm s)) ∧ w = w' := by
  by_cases hr : inR (s.size : Int) 1 20 = true
  · have h1 : 1 ≤ s.size ∧ s.size ≤ 20 := by simp [inR] at hr; omega
    go_enter Try.func67, Try.ntmps67
    go_wp2_with fail
    refine (inRange_any _ _ _ _).mono ?_
    rintro e w' ⟨rfl, rfl⟩
    rw [hr]
    go_wp2_with fail
    go_loop [10] (fun i => ∃ k : Nat, k ≤ s.size ∧ i = .int .i64 k ∧ (∀ j (hj : j < s.size), j < k → byteOk s[j] = true)) (fun i => s.size - (intOf i).toNat)
    case atStart => exact ⟨0, Nat.zero_le _, rfl, by omega⟩
    case round =>
      obtain ⟨k, hk, rfl, hall⟩ := hrel
      have HA := hide hall
      clear hall
      by_cases hlt : k < s.size
      · cases hc : byteOk s[k]
        · have HB := hide (nm_bad s k hlt hc)
          have HC := hide hc
          clear hc
          go_wp2_with fail
          refine (nameByte_any s[k] _).mono ?_
          rintro e w1 ⟨rfl, rfl⟩
          rw [HC.out]
          go_wp2_with fail
          go_ret
          exact ⟨ret_b HB.out.symm, rfl⟩
        · have HC := hide hc
          clear hc
          go_wp2_with fail
          refine (nameByte_any s[k] _).mono ?_
          rintro e w1 ⟨rfl, rfl⟩
          rw [HC.out]
          go_wp2_with fail
          refine ⟨⟨k + 1, by omega, by go_num, ?_⟩, by simp [intOf]; omega⟩
          intro j hj hjk
          by_cases e : j = k
          · subst e; exact HC.out
          · exact HA.out j hj (by omega)
      · have HN := hide (nm_all s (fun j hj => HA.out j hj (by omega)))
        go_wp2_with fail
        go_ret
        exact ⟨ret_b (by rw [HN.out]; simp; omega), rfl⟩
  · have hr' : inR (s.size : Int) 1 20 = false := by simpa using hr
    have hf : nm s = false := by simp [inR] at hr'; simp [nm]; omega
    have HF := hide hf
    clear hf hr
    go_enter Try.func67, Try.ntmps67
    go_wp2_with fail
    refine (inRange_any _ _ _ _).mono ?_
    rintro e w' ⟨rfl, rfl⟩
    rw [hr']
    go_wp2_with fail
    go_ret
    exact ⟨ret_b HF.out.symm, rfl⟩
end Go.Proofs.Yteapmddadieohaa

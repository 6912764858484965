import Derived.Test.YteapmddadieohaaImB
namespace Go.Proofs.Yteapmddadieohaa
open Go.RowKit
set_option maxHeartbeats 1000000

theorem jointOk_3 (s : ByteArray) (a : Option Addr) (es : List (Int × Int)) (cap n : Nat) (w : World) (hn : n ≤ 1048576) (hl : es.length ≤ 1048576) (he : EndsAt w a es) :
    Calls Try.prog 61 #[.agg #[.int .i64 3, .string s, .slice a es.length cap], .int .i64 n] w fun e w' =>
    e = .returned (.bool (!((es.length : Int) != 3 || es.any (fun e => !endOk n e)))) ∧ Below w.heap.size w w' := by
  have HE := hide he
  clear he
  have hm := ms_3
  cases hq : ((es.length : Int) != 3)
  · skip
    go_enter Try.func61, Try.ntmps61
    go_wp2_with fail
    refine (kindOf_3 _).mono ?_
    rintro e w1 ⟨rfl, rfl⟩
    go_wp2_with fail
    go_region_with (go_at_call 89; refine (size_3 _).mono ?_; rintro e w1 ⟨rfl, hb1⟩; obtain ⟨hc, hf⟩ := bcell hb1)
    all_goals
      have hbA : Below w.heap.size w w1 := (((Below.refl _ _).alloc (Nat.le_refl _) _).drew).trans (hb1.mono (by simp))
      have d2 : w1.cell? ⟨w.heap.size, 2, none⟩ = some (.slice a es.length cap) := by rw [hc _ _ (by simp)]; simp [go_sem]
      clear hc hf hm
      go_wp2_with fail
      go_loopw [24] (fun i wr => ∃ (t : Nat), t ≤ es.length ∧ i = .int .i64 t ∧ (∀ u (_ : u < t) (hu : u < es.length), endOk n es[u] = true) ∧ Below w.heap.size w wr) (fun i _ => es.length - (intOf i).toNat)
      case atStart => exact ⟨0, Nat.zero_le _, rfl, by intro u hu; omega, hbA⟩
      case round =>
        obtain ⟨t, ht, rfl, hall, hb⟩ := hrel
        have HA := hide hall
        clear hall
        by_cases hti : t < es.length
        · obtain ⟨b2, off2, rfl, d0, d1⟩ := (EndsAt.later HE.out hb) t hti
          have hbB : Below w.heap.size w (wr.alloc (.cells #[.int .i64 es[t].1, .int .i64 es[t].2] 59)) := hb.alloc hb.size _
          cases g1 : inR es[t].1 0 ((n : Int) - 1)
          · have G1 := hide g1
            clear g1
            go_wp2_with fail
            refine (inRange_any _ _ _ _).mono ?_
            rintro e w2 ⟨rfl, rfl⟩
            rw [G1.out]
            go_wp2_with fail
            go_ret
            refine ⟨ret_b ?_, hbB⟩
            rw [any_true' (l := es) (p := fun e => !endOk n e) hti (by simp [endOk, G1.out])]; rfl
          · have G1 := hide g1
            clear g1
            cases g2 : inR es[t].2 0 1
            · have G2 := hide g2
              clear g2
              go_wp2_with fail
              refine (inRange_any _ _ _ _).mono ?_
              rintro e w2 ⟨rfl, rfl⟩
              rw [G1.out]
              go_wp2_with fail
              refine (inRange_any _ _ _ _).mono ?_
              rintro e w2 ⟨rfl, rfl⟩
              rw [G2.out]
              go_wp2_with fail
              go_ret
              refine ⟨ret_b ?_, hbB⟩
              rw [any_true' (l := es) (p := fun e => !endOk n e) hti (by simp [endOk, G2.out])]; rfl
            · have G2 := hide g2
              clear g2
              go_wp2_with fail
              refine (inRange_any _ _ _ _).mono ?_
              rintro e w2 ⟨rfl, rfl⟩
              rw [G1.out]
              go_wp2_with fail
              refine (inRange_any _ _ _ _).mono ?_
              rintro e w2 ⟨rfl, rfl⟩
              rw [G2.out]
              go_wp2_with fail
              go_roundw
              case rel =>
                refine ⟨t + 1, by omega, by go_num, ?_, hbB⟩
                intro u hu hu'
                by_cases e : u = t
                · subst e; simp [endOk, G1.out, G2.out]
                · exact HA.out u (by omega) hu'
              case measure => simp [intOf]; omega
        · go_wp2_with fail
          go_ret
          refine ⟨ret_b ?_, hb⟩
          rw [any_false' (l := es) (p := fun e => !endOk n e) (fun u hu => by simp [HA.out u (by omega) hu])]; rfl
  · skip
    go_enter Try.func61, Try.ntmps61
    go_wp2_with fail
    refine (kindOf_3 _).mono ?_
    rintro e w1 ⟨rfl, rfl⟩
    go_wp2_with fail
    go_region_with (go_at_call 89; refine (size_3 _).mono ?_; rintro e w1 ⟨rfl, hb1⟩; obtain ⟨hc, hf⟩ := bcell hb1)
    all_goals
      have hbA : Below w.heap.size w w1 := (((Below.refl _ _).alloc (Nat.le_refl _) _).drew).trans (hb1.mono (by simp))
      clear hc hf hm
      go_wp2_with fail
      go_ret
      exact ⟨ret_b rfl, hbA⟩
end Go.Proofs.Yteapmddadieohaa

namespace Go.Proofs.Yteapmddadieohaa
open Go.RowKit
set_option maxHeartbeats 1000000

theorem jointOk_4 (s : ByteArray) (a : Option Addr) (es : List (Int × Int)) (cap n : Nat) (w : World) (hn : n ≤ 1048576) (hl : es.length ≤ 1048576) (he : EndsAt w a es) :
    Calls Try.prog 61 #[.agg #[.int .i64 4, .string s, .slice a es.length cap], .int .i64 n] w fun e w' =>
    e = .returned (.bool (!((es.length : Int) != 4 || es.any (fun e => !endOk n e)))) ∧ Below w.heap.size w w' := by
  have HE := hide he
  clear he
  have hm := ms_4
  cases hq : ((es.length : Int) != 4)
  · skip
    go_enter Try.func61, Try.ntmps61
    go_wp2_with fail
    refine (kindOf_4 _).mono ?_
    rintro e w1 ⟨rfl, rfl⟩
    go_wp2_with fail
    go_region_with (go_at_call 93; refine (size_4 _).mono ?_; rintro e w1 ⟨rfl, hb1⟩; obtain ⟨hc, hf⟩ := bcell hb1)
    all_goals
      have hbA : Below w.heap.size w w1 := (((Below.refl _ _).alloc (Nat.le_refl _) _).drew).trans (hb1.mono (by simp))
      have d2 : w1.cell? ⟨w.heap.size, 2, none⟩ = some (.slice a es.length cap) := by rw [hc _ _ (by simp)]; simp [go_sem]
      clear hc hf hm
      go_wp2_with fail
      go_loopw [24] (fun i wr => ∃ (t : Nat), t ≤ es.length ∧ i = .int .i64 t ∧ (∀ u (_ : u < t) (hu : u < es.length), endOk n es[u] = true) ∧ Below w.heap.size w wr) (fun i _ => es.length - (intOf i).toNat)
      case atStart => exact ⟨0, Nat.zero_le _, rfl, by intro u hu; omega, hbA⟩
      case round =>
        obtain ⟨t, ht, rfl, hall, hb⟩ := hrel
        have HA := hide hall
        clear hall
        by_cases hti : t < es.length
        · obtain ⟨b2, off2, rfl, d0, d1⟩ := (EndsAt.later HE.out hb) t hti
          have hbB : Below w.heap.size w (wr.alloc (.cells #[.int .i64 es[t].1, .int .i64 es[t].2] 59)) := hb.alloc hb.size _
          cases g1 : inR es[t].1 0 ((n : Int) - 1)
          · have G1 := hide g1
            clear g1
            go_wp2_with fail
            refine (inRange_any _ _ _ _).mono ?_
            rintro e w2 ⟨rfl, rfl⟩
            rw [G1.out]
            go_wp2_with fail
            go_ret
            refine ⟨ret_b ?_, hbB⟩
            rw [any_true' (l := es) (p := fun e => !endOk n e) hti (by simp [endOk, G1.out])]; rfl
          · have G1 := hide g1
            clear g1
            cases g2 : inR es[t].2 0 1
            · have G2 := hide g2
              clear g2
              go_wp2_with fail
              refine (inRange_any _ _ _ _).mono ?_
              rintro e w2 ⟨rfl, rfl⟩
              rw [G1.out]
              go_wp2_with fail
              refine (inRange_any _ _ _ _).mono ?_
              rintro e w2 ⟨rfl, rfl⟩
              rw [G2.out]
              go_wp2_with fail
              go_ret
              refine ⟨ret_b ?_, hbB⟩
              rw [any_true' (l := es) (p := fun e => !endOk n e) hti (by simp [endOk, G2.out])]; rfl
            · have G2 := hide g2
              clear g2
              go_wp2_with fail
              refine (inRange_any _ _ _ _).mono ?_
              rintro e w2 ⟨rfl, rfl⟩
              rw [G1.out]
              go_wp2_with fail
              refine (inRange_any _ _ _ _).mono ?_
              rintro e w2 ⟨rfl, rfl⟩
              rw [G2.out]
              go_wp2_with fail
              go_roundw
              case rel =>
                refine ⟨t + 1, by omega, by go_num, ?_, hbB⟩
                intro u hu hu'
                by_cases e : u = t
                · subst e; simp [endOk, G1.out, G2.out]
                · exact HA.out u (by omega) hu'
              case measure => simp [intOf]; omega
        · go_wp2_with fail
          go_ret
          refine ⟨ret_b ?_, hb⟩
          rw [any_false' (l := es) (p := fun e => !endOk n e) (fun u hu => by simp [HA.out u (by omega) hu])]; rfl
  · skip
    go_enter Try.func61, Try.ntmps61
    go_wp2_with fail
    refine (kindOf_4 _).mono ?_
    rintro e w1 ⟨rfl, rfl⟩
    go_wp2_with fail
    go_region_with (go_at_call 93; refine (size_4 _).mono ?_; rintro e w1 ⟨rfl, hb1⟩; obtain ⟨hc, hf⟩ := bcell hb1)
    all_goals
      have hbA : Below w.heap.size w w1 := (((Below.refl _ _).alloc (Nat.le_refl _) _).drew).trans (hb1.mono (by simp))
      clear hc hf hm
      go_wp2_with fail
      go_ret
      exact ⟨ret_b rfl, hbA⟩
end Go.Proofs.Yteapmddadieohaa

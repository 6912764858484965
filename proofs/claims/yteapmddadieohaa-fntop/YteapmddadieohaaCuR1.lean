/- roll, looking to end 1. Own work, written by gen_roll.py. -/
import Derived.Test.YteapmddadieohaaMxAT
import Derived.Lib.QuietBelow
import Derived.BigQuiet
import Derived.Deep.RegionHeld3
import Derived.Deep.AppendLies
namespace Go.Proofs.Yteapmddadieohaa
open Go.RowKit Go.Sort
set_option maxHeartbeats 8000000
set_option maxRecDepth 20000
set_option linter.unusedSimpArgs false

theorem room_q (q a wy len : Int) (w : World) (hwy : wy = 1 ∨ wy = -1) (hl : 0 ≤ len ∧ len ≤ 10000000) (ha : 0 ≤ a ∧ a ≤ 10000000) (d : Nat) (os : Array Obj) :
    Calls Try.prog 52 #[.agg #[.int .i64 q, .int .i64 a, .int .i64 wy], .int .i64 len] (grow (redrawn w d) os) fun e w'' => e = .returned (.int .i64 (if wy = 1 then len - a else a)) ∧ ∃ p : Regrown, w'' = grow (redrawn w p.d) p.os :=
  Calls.regrown_of (room_any q a wy len _ hwy hl ha)

theorem roll_1 {w W : World} {B m n : Nat} {G : Int × Int → Option (Int × Int × Int)} {a : Option Addr} {N : Nt} {cap : Nat} {sj sl : Value} {w0 : World} {k : Nat} {a0 : Int} {ov : Nat} {u : Value} {ps : List (Int × Int × Int)} (E : Env w W B m n G) (h : CS W B m (.slice a N.pcs.length cap) sj sl w0 k a0 1 ov u ps) (hk : k < N.pcs.length) (hlen : 0 ≤ N.pcs[k].len ∧ N.pcs[k].len ≤ 10000000) (ha : 0 ≤ a0 ∧ a0 ≤ N.pcs[k].len) (left st : Int) (hl : 0 ≤ left ∧ left ≤ 1000000) (hst : (if N.pcs[k].len - a0 < left then N.pcs[k].len - a0 else left) = st) (hps : ps.length ≤ 1000000) (hP : PcsAt w a N.pcs) :
    Calls Try.prog 42 #[.pointer (some ⟨B, 0, none⟩), .int .i64 left] w0 fun e w2 =>
    e = .returned (.int .i64 (left - st)) ∧ ∃ u2, CS W B m (.slice a N.pcs.length cap) sj sl w2 k (a0 + st) 1 ov u2 (if st = 0 then ps else ps ++ [((k : Int), a0, (a0 + st))]) := by
  obtain ⟨pb, po, rfl, _, p1, _, _⟩ := (hP.later (h.below E)) k hk
  have hki : (k : Int) < (N.pcs.length : Int) := by omega
  have k0 := cell_regrown h.c0
  have k1 := cell_regrown h.c1
  have k2 := cell_regrown h.c2
  have k3 := cell_regrown h.c3
  have k4 := cell_regrown p1
  obtain ⟨hl0, hl1⟩ := hl
  obtain ⟨hlen0, hlen1⟩ := hlen
  obtain ⟨ha0, ha1⟩ := ha
  have hst0 : 0 ≤ st ∧ st ≤ left ∧ st ≤ N.pcs[k].len - a0 := by rw [← hst]; split <;> omega
  have HC := hide h
  have HST := hide hst
  clear h hP E hst p1
  go_enter Try.func42, Try.ntmps42
  go_upto_region 1 with fail
  refine wp_region_quiet_below (by kernel_rfl) (by kernel_rfl) ?_
  repeat (go_big_quiet_step (first
    | exact room_q _ _ _ _ _ (Or.inl rfl) ⟨hlen0, hlen1⟩ ⟨ha0, by omega⟩ _ _))
  refine wpQuiet_nil ?_
  intro _ hw'
  obtain ⟨⟨dq, osq⟩, hw''⟩ := hw'
  subst hw''
  have hb1 := below_regrown w0 dq osq
  generalize grow (redrawn w0 dq) osq = w1 at hb1 ⊢
  rw [HST.out]
  have HC1 := hide (HC.out.later hb1)
  have c1 := HC1.out.c1
  have c2 := HC1.out.c2
  have f1 := HC1.out.fz 1
  clear k0 k1 k2 k3 k4 hb1 HC HST
  go_upto_region 3 with fail
  go_region
  have HC2 := hide ((HC1.out.setAt (a0 + st)).later ((Below.refl _ _).drew))
  generalize (w1.setCell ⟨B, 1, none⟩ (.int .i64 (a0 + st))).drew = w2 at HC2 ⊢
  clear c1 c2 f1 HC1
  by_cases hz : st = 0
  · subst hz
    go_wp2_with fail
    go_ret
    exact ⟨ret_i (by simp), u, by simpa using HC2.out⟩
  · have HZ := hide hz
    have hpos : 0 < st := by omega
    clear hz
    have c0 := HC2.out.c0
    have c1 := HC2.out.c1
    have c8 := HC2.out.c8
    have f8 := HC2.out.fz 8
    have q1 : ((a0 + st) < a0) = False := eq_false (by omega)
    have q2 : (a0 < (a0 + st)) = True := eq_true (by omega)
    have hml : ps.length + 1 ≤ maxLen := by unfold maxLen; omega
    obtain ⟨i0, hi0, hz3⟩ : ∃ i0, Try.prog.info? 79 = some i0 ∧ (i0.zero, i0.size, i0.bytes) = (some (.agg #[.int .i64 0, .int .i64 0, .int .i64 0]), 3, 24) := by
      have := infoPart
      cases hh : Try.prog.info? 79 with
      | none => rw [hh] at this; simp at this
      | some i0 => rw [hh] at this; exact ⟨i0, rfl, by simpa using this⟩
    have HI := hide hi0
    have HZ0 := hide (show i0.zero = some (.agg #[.int .i64 0, .int .i64 0, .int .i64 0]) by simpa using congrArg Prod.fst hz3)
    have HZ1 := hide (show i0.size = 3 by simpa using congrArg (fun t => t.2.1) hz3)
    have HZ2 := hide (show i0.bytes = 24 by simpa using congrArg (fun t => t.2.2) hz3)
    have HLT0 := hide HC2.out.row.lt
    have HBS := hide HC2.out.bs
    have HBB := hide HC2.out.Bb
    clear hi0 hz3
    go_upto_region 5 with fail
    refine wp_region_held_drew (S := (fun wx : World => wx.cell? ⟨B, 0, none⟩ = some (.int .i64 k) ∧ wx.cell? ⟨B, 1, none⟩ = some (.int .i64 (a0 + st)))) (by kernel_rfl) ?_ (fun _ => ?_)
    · exact ⟨c0, c1⟩
    refine wpAnyH_take (i := 0) (v := ?v0) rfl (by kernel_rfl) (by kernel_rfl) (by kernel_rfl) (fun _ _ _ h => h) (Or.inl ⟨by rfl, ?hy0⟩) (by assumption) ?rest0
    case hy0 => (intro w hSw; (try dsimp only at hSw); go_simp; try with_reducible rfl)
    try simp only [Act.put, List.setIfInBounds_toArray, List.set_cons_zero, List.set_cons_succ]
    refine wpAnyH_take (i := 1) (v := ?v1) rfl (by kernel_rfl) (by kernel_rfl) (by kernel_rfl) (fun _ _ _ h => h) (Or.inl ⟨by rfl, ?hy1⟩) (by assumption) ?rest1
    case hy1 => (intro w hSw; (try dsimp only at hSw); go_simp; try with_reducible rfl)
    try simp only [Act.put, List.setIfInBounds_toArray, List.set_cons_zero, List.set_cons_succ]
    refine wpAnyH_take (i := 2) (v := ?v2) rfl (by kernel_rfl) (by kernel_rfl) (by kernel_rfl) (fun _ _ _ h => h) (Or.inl ⟨by rfl, ?hy2⟩) (by assumption) ?rest2
    case hy2 => (intro w hSw; (try dsimp only at hSw); go_simp; try with_reducible rfl)
    try simp only [Act.put, List.setIfInBounds_toArray, List.set_cons_zero, List.set_cons_succ]
    refine wpAnyH_take (i := 3) (v := ?v3) rfl (by kernel_rfl) (by kernel_rfl) (by kernel_rfl) (fun _ _ _ h => h) (Or.inl ⟨by rfl, ?hy3⟩) (by assumption) ?rest3
    case hy3 => (intro w hSw; (try dsimp only at hSw); go_simp; try with_reducible rfl)
    try simp only [Act.put, List.setIfInBounds_toArray, List.set_cons_zero, List.set_cons_succ]
    refine wpAnyH_take (i := 5) (v := ?v4) rfl (by kernel_rfl) (by kernel_rfl) (by kernel_rfl) (fun _ _ _ h => h) (Or.inl ⟨by rfl, ?hy4⟩) (by assumption) ?rest4
    case hy4 => (intro w hSw; (try dsimp only at hSw); go_simp; try with_reducible rfl)
    try simp only [Act.put, List.setIfInBounds_toArray, List.set_cons_zero, List.set_cons_succ]
    refine wpAnyH_take (i := 6) (v := ?v5) rfl (by kernel_rfl) (by kernel_rfl) (by kernel_rfl) (fun _ _ _ h => h) (Or.inl ⟨by rfl, ?hy5⟩) (by assumption) ?rest5
    case hy5 => (intro w hSw; (try dsimp only at hSw); go_simp; try with_reducible rfl)
    try simp only [Act.put, List.setIfInBounds_toArray, List.set_cons_zero, List.set_cons_succ]
    refine wpAnyH_take (i := 7) (v := ?v6) rfl (by kernel_rfl) (by kernel_rfl) (by kernel_rfl) (fun _ _ _ h => h) (Or.inl ⟨by rfl, ?hy6⟩) (by assumption) ?rest6
    case hy6 => (intro w hSw; (try dsimp only at hSw); go_simp; try with_reducible rfl)
    try simp only [Act.put, List.setIfInBounds_toArray, List.set_cons_zero, List.set_cons_succ]
    refine wpAnyH_take (i := 8) (v := ?v7) rfl (by kernel_rfl) (by kernel_rfl) (by kernel_rfl) (fun _ _ _ h => h) (Or.inl ⟨by rfl, ?hy7⟩) (by assumption) ?rest7
    case hy7 => (intro w hSw; (try dsimp only at hSw); go_simp; try with_reducible rfl)
    try simp only [Act.put, List.setIfInBounds_toArray, List.set_cons_zero, List.set_cons_succ]
    refine wpAnyH_take (i := 9) (v := ?v8) rfl (by kernel_rfl) (by kernel_rfl) (by kernel_rfl) (fun _ _ _ h => h) (Or.inl ⟨by rfl, ?hy8⟩) (by assumption) ?rest8
    case hy8 => (intro w hSw; (try dsimp only at hSw); go_simp; try with_reducible rfl)
    try simp only [Act.put, List.setIfInBounds_toArray, List.set_cons_zero, List.set_cons_succ]
    refine wpAnyH_take (i := 10) (v := ?v9) rfl (by kernel_rfl) (by kernel_rfl) (by kernel_rfl) (fun _ _ _ h => h) (Or.inl ⟨by rfl, ?hy9⟩) (by assumption) ?rest9
    case hy9 => (intro w hSw; (try dsimp only at hSw); go_simp; try with_reducible rfl)
    try simp only [Act.put, List.setIfInBounds_toArray, List.set_cons_zero, List.set_cons_succ]
    refine wpAnyH_take (i := 11) (v := ?v10) rfl (by kernel_rfl) (by kernel_rfl) (by kernel_rfl) (fun _ _ _ h => h) (Or.inl ⟨by rfl, ?hy10⟩) (by assumption) ?rest10
    case hy10 => (intro w hSw; (try dsimp only at hSw); go_simp; try with_reducible rfl)
    try simp only [Act.put, List.setIfInBounds_toArray, List.set_cons_zero, List.set_cons_succ]
    refine wpAnyH_take (i := 12) (v := ?v11) rfl (by kernel_rfl) (by kernel_rfl) (by kernel_rfl) (fun _ _ _ h => h) (Or.inl ⟨by rfl, ?hy11⟩) (by assumption) ?rest11
    case hy11 => (intro w hSw; (try dsimp only at hSw); go_simp; try with_reducible rfl)
    try simp only [Act.put, List.setIfInBounds_toArray, List.set_cons_zero, List.set_cons_succ]
    refine wpAnyH_take (i := 13) (v := ?v12) rfl (by kernel_rfl) (by kernel_rfl) (by kernel_rfl) (fun _ _ _ h => h) (Or.inl ⟨by rfl, ?hy12⟩) (by assumption) ?rest12
    case hy12 => (intro w hSw; (try dsimp only at hSw); go_simp; try with_reducible rfl)
    try simp only [Act.put, List.setIfInBounds_toArray, List.set_cons_zero, List.set_cons_succ]
    refine wpAnyH_take (i := 14) (v := ?v13) rfl (by kernel_rfl) (by kernel_rfl) (by kernel_rfl) (fun _ _ _ h => h) (Or.inl ⟨by rfl, ?hy13⟩) (by assumption) ?rest13
    case hy13 => (intro w hSw; (try dsimp only at hSw); go_simp; try with_reducible rfl)
    try simp only [Act.put, List.setIfInBounds_toArray, List.set_cons_zero, List.set_cons_succ]
    refine wpAnyH_take (i := 15) (v := ?v14) rfl (by kernel_rfl) (by kernel_rfl) (by kernel_rfl) (fun _ _ _ h => h) (Or.inl ⟨by rfl, ?hy14⟩) (by assumption) ?rest14
    case hy14 => (intro w hSw; (try dsimp only at hSw); go_simp; try with_reducible rfl)
    try simp only [Act.put, List.setIfInBounds_toArray, List.set_cons_zero, List.set_cons_succ]
    refine wpAnyH_take (i := 16) (v := ?v15) rfl (by kernel_rfl) (by kernel_rfl) (by kernel_rfl) (fun _ _ _ h => h) (Or.inl ⟨by rfl, ?hy15⟩) (by assumption) ?rest15
    case hy15 => (intro w hSw; (try dsimp only at hSw); go_simp; try with_reducible rfl)
    try simp only [Act.put, List.setIfInBounds_toArray, List.set_cons_zero, List.set_cons_succ]
    refine wpAnyH_take (i := 17) (v := ?v16) rfl (by kernel_rfl) (by kernel_rfl) (by kernel_rfl) (fun _ _ _ h => h) (Or.inl ⟨by rfl, ?hy16⟩) (by assumption) ?rest16
    case hy16 => (intro w hSw; (try dsimp only at hSw); go_simp; try with_reducible rfl)
    try simp only [Act.put, List.setIfInBounds_toArray, List.set_cons_zero, List.set_cons_succ]
    refine wpAnyH_take (i := 18) (v := ?v17) rfl (by kernel_rfl) (by kernel_rfl) (by kernel_rfl) (fun _ _ _ h => h) (Or.inl ⟨by rfl, ?hy17⟩) (by assumption) ?rest17
    case hy17 => (intro w hSw; (try dsimp only at hSw); go_simp; try with_reducible rfl)
    try simp only [Act.put, List.setIfInBounds_toArray, List.set_cons_zero, List.set_cons_succ]
    refine wpAnyH_take (i := 19) (v := ?v18) rfl (by kernel_rfl) (by kernel_rfl) (by kernel_rfl) (fun _ _ _ h => h) (Or.inl ⟨by rfl, ?hy18⟩) (by assumption) ?rest18
    case hy18 => (intro w hSw; (try dsimp only at hSw); go_simp; try with_reducible rfl)
    try simp only [Act.put, List.setIfInBounds_toArray, List.set_cons_zero, List.set_cons_succ]
    refine wpAnyH_take (i := 20) (v := ?v19) rfl (by kernel_rfl) (by kernel_rfl) (by kernel_rfl) (fun _ _ _ h => h) (Or.inl ⟨by rfl, ?hy19⟩) (by assumption) ?rest19
    case hy19 => (intro w hSw; (try dsimp only at hSw); go_simp; try with_reducible rfl)
    try simp only [Act.put, List.setIfInBounds_toArray, List.set_cons_zero, List.set_cons_succ]
    refine wpAnyH_take (i := 21) (v := ?v20) rfl (by kernel_rfl) (by kernel_rfl) (by kernel_rfl) (fun _ _ _ h => h) (Or.inl ⟨by rfl, ?hy20⟩) (by assumption) ?rest20
    case hy20 => (intro w hSw; (try dsimp only at hSw); go_simp; try with_reducible rfl)
    try simp only [Act.put, List.setIfInBounds_toArray, List.set_cons_zero, List.set_cons_succ]
    refine wpAnyH_take (i := 22) (v := ?v21) rfl (by kernel_rfl) (by kernel_rfl) (by kernel_rfl) (fun _ _ _ h => h) (Or.inl ⟨by rfl, ?hy21⟩) (by assumption) ?rest21
    case hy21 => (intro w hSw; (try dsimp only at hSw); go_simp; try with_reducible rfl)
    try simp only [Act.put, List.setIfInBounds_toArray, List.set_cons_zero, List.set_cons_succ]
    refine wpAnyH_take (i := 23) (v := ?v22) rfl (by kernel_rfl) (by kernel_rfl) (by kernel_rfl) (fun _ _ _ h => h) (Or.inl ⟨by rfl, ?hy22⟩) (by assumption) ?rest22
    case hy22 => (intro w hSw; (try dsimp only at hSw); go_simp; try with_reducible rfl)
    try simp only [Act.put, List.setIfInBounds_toArray, List.set_cons_zero, List.set_cons_succ]
    refine wpAnyH_take (i := 24) (v := ?v23) rfl (by kernel_rfl) (by kernel_rfl) (by kernel_rfl) (fun _ _ _ h => h) (Or.inl ⟨by rfl, ?hy23⟩) (by assumption) ?rest23
    case hy23 => (intro w hSw; (try dsimp only at hSw); go_simp; try with_reducible rfl)
    try simp only [Act.put, List.setIfInBounds_toArray, List.set_cons_zero, List.set_cons_succ]
    refine wpAnyH_ready (rs := [4, 25]) (by kernel_rfl) (by simp) ?_
    refine AllReadyH.cons rfl (fun K hK => ?_) (AllReadyH.cons rfl (fun K hK => ?_) AllReadyH.nil)
    · go_simp
      refine hK.out _ _ ?_ (fun _ => ?_)
      · exact ⟨c0, c1⟩
      clear hK K
      try simp only [Act.put, List.setIfInBounds_toArray, List.set_cons_zero, List.set_cons_succ]
      refine wpAnyH_ready (rs := [25]) (by kernel_rfl) (by simp) ?_
      refine AllReadyH.cons rfl (fun K hK => ?_) AllReadyH.nil
      go_simp
      refine hK.out _ _ ?_ (fun _ => ?_)
      · exact ⟨cell_later' (((Below.refl w2.heap.size w2).alloc (Nat.le_refl _) _).drew) c0, cell_later' (((Below.refl w2.heap.size w2).alloc (Nat.le_refl _) _).drew) c1⟩
      clear hK K
      try simp only [Act.put, List.setIfInBounds_toArray, List.set_cons_zero, List.set_cons_succ]
      refine wpAnyH_ready (rs := [26]) (by kernel_rfl) (by simp) ?_
      refine AllReadyH.cons rfl (fun K hK => ?_) AllReadyH.nil
      refine step_append_lies _ (by rfl) _ _ _ (by rfl) W.heap.size 79 i0 _ 3 24 Try.underlying54 HI.out HZ0.out HZ1.out HZ2.out rfl (by omega) u ps.length (partCells ps) (by rfl) (HC2.out.row.alloc _) ⟨w2.heap.size, 0, none⟩ 1 1 [.int .i64 k, .int .i64 a0, .int .i64 (a0 + st)] (by rfl) (by rfl) (World.news_of_block (heap_alloc_new _ _)) (by simp [Value.oneCell']) (by omega) hml (by omega) (by have := HBS.out; simp; omega) _ rfl ?_
      intro g2 c2 w3 hown2 hgrow2 _ hlt2
      refine hK.out _ _ ?_ (fun hS3 => ?_)
      · (have hne : some B ≠ u.ownBlock := fun e => (by have := (HLT0.out B e.symm).1; have := HBB.out; omega); exact ⟨hgrow2.cell (cell_later' (((Below.refl w2.heap.size w2).alloc (Nat.le_refl _) _).drew) c0) hne, hgrow2.cell (cell_later' (((Below.refl w2.heap.size w2).alloc (Nat.le_refl _) _).drew) c1) hne⟩)
      clear hK K
      try simp only [Act.put, List.setIfInBounds_toArray, List.set_cons_zero, List.set_cons_succ]
      have HGR := hide (CS.grown (ps2 := ps ++ [((k : Int), a0, (a0 + st))]) (HC2.out.later (((Below.refl w2.heap.size w2).alloc (Nat.le_refl _) (.cells #[.int .i64 k, .int .i64 a0, .int .i64 (a0 + st)] 79)).drew)) hgrow2 (fun g e => (HLT0.out g e).1) (by
        have e1 : (ps ++ [((k : Int), a0, (a0 + st))]).length = ps.length + 1 := by simp
        have e2 : partCells (ps ++ [((k : Int), a0, (a0 + st))]) = partCells ps ++ [.int .i64 k, .int .i64 a0, .int .i64 (a0 + st)] := by simp [partCells]
        rw [e1, e2]
        exact hown2))
      have d8 := (show w3.cell? ⟨B, 8, none⟩ = some u from hgrow2.cell (cell_later' (((Below.refl w2.heap.size w2).alloc (Nat.le_refl _) _).drew) c8) (fun e => by have := (HLT0.out B e.symm).1; have := HBB.out; omega))
      have d9 := (show w3.frozen? ⟨B, 8, none⟩ = false from (hgrow2.frozen_far ⟨B, 8, none⟩ (by have := cell_lt c8; simp; omega) (fun e => by have := (HLT0.out B e.symm).1; have := HBB.out; omega)).trans (frozen_later (((Below.refl w2.heap.size w2).alloc (Nat.le_refl _) _).drew) c8 f8))
      refine wpAnyH_take (i := 27) (v := ?v24) rfl (by kernel_rfl) (by kernel_rfl) (by kernel_rfl) (fun _ _ _ h => h) (Or.inl ⟨by rfl, ?hy24⟩) (by assumption) ?rest24
      case hy24 => (intro w hSw; (try dsimp only at hSw); go_simp; try with_reducible rfl)
      try simp only [Act.put, List.setIfInBounds_toArray, List.set_cons_zero, List.set_cons_succ]
      refine wpAnyH_take (i := 28) (v := ?v25) rfl (by kernel_rfl) (by kernel_rfl) (by kernel_rfl) (fun _ _ _ h => h) (Or.inl ⟨by rfl, ?hy25⟩) (by assumption) ?rest25
      case hy25 => (intro w hSw; (try dsimp only at hSw); go_simp; try with_reducible rfl)
      try simp only [Act.put, List.setIfInBounds_toArray, List.set_cons_zero, List.set_cons_succ]
      refine wpAnyH_ready (rs := [29]) (by kernel_rfl) (by simp) ?_
      refine AllReadyH.cons rfl (fun K hK => ?_) AllReadyH.nil
      go_simp
      refine hK.out _ _ ?_ (fun _ => ?_)
      · exact ⟨by simp [go_sem, hS3.1], by simp [go_sem, hS3.2]⟩
      clear hK K
      try simp only [Act.put, List.setIfInBounds_toArray, List.set_cons_zero, List.set_cons_succ]
      refine wpAnyH_done (by kernel_rfl) ?_ _
      go_wp2_with fail
      go_ret
      exact ⟨rfl, _, (by first | exact HGR.out | (rw [if_neg HZ.out]; exact HGR.out))⟩
    · go_simp
      refine hK.out _ _ ?_ (fun _ => ?_)
      · exact ⟨cell_later' (((Below.refl w2.heap.size w2).alloc (Nat.le_refl _) _).drew) c0, cell_later' (((Below.refl w2.heap.size w2).alloc (Nat.le_refl _) _).drew) c1⟩
      clear hK K
      try simp only [Act.put, List.setIfInBounds_toArray, List.set_cons_zero, List.set_cons_succ]
      have c8' := cell_later' (((Below.refl w2.heap.size w2).alloc (Nat.le_refl _) (.cells #[.int .i64 k, .int .i64 a0, .int .i64 (a0 + st)] 79)).drew) c8
      refine wpAnyH_ready (rs := [4]) (by kernel_rfl) (by simp) ?_
      refine AllReadyH.cons rfl (fun K hK => ?_) AllReadyH.nil
      go_simp
      refine hK.out _ _ ?_ (fun _ => ?_)
      · exact ⟨cell_later' (((Below.refl w2.heap.size w2).alloc (Nat.le_refl _) _).drew) c0, cell_later' (((Below.refl w2.heap.size w2).alloc (Nat.le_refl _) _).drew) c1⟩
      clear hK K
      try simp only [Act.put, List.setIfInBounds_toArray, List.set_cons_zero, List.set_cons_succ]
      refine wpAnyH_ready (rs := [26]) (by kernel_rfl) (by simp) ?_
      refine AllReadyH.cons rfl (fun K hK => ?_) AllReadyH.nil
      refine step_append_lies _ (by rfl) _ _ _ (by rfl) W.heap.size 79 i0 _ 3 24 Try.underlying54 HI.out HZ0.out HZ1.out HZ2.out rfl (by omega) u ps.length (partCells ps) (by rfl) (HC2.out.row.alloc _) ⟨w2.heap.size, 0, none⟩ 1 1 [.int .i64 k, .int .i64 a0, .int .i64 (a0 + st)] (by rfl) (by rfl) (World.news_of_block (heap_alloc_new _ _)) (by simp [Value.oneCell']) (by omega) hml (by omega) (by have := HBS.out; simp; omega) _ rfl ?_
      intro g2 c2 w3 hown2 hgrow2 _ hlt2
      refine hK.out _ _ ?_ (fun hS3 => ?_)
      · (have hne : some B ≠ u.ownBlock := fun e => (by have := (HLT0.out B e.symm).1; have := HBB.out; omega); exact ⟨hgrow2.cell (cell_later' (((Below.refl w2.heap.size w2).alloc (Nat.le_refl _) _).drew) c0) hne, hgrow2.cell (cell_later' (((Below.refl w2.heap.size w2).alloc (Nat.le_refl _) _).drew) c1) hne⟩)
      clear hK K
      try simp only [Act.put, List.setIfInBounds_toArray, List.set_cons_zero, List.set_cons_succ]
      have HGR := hide (CS.grown (ps2 := ps ++ [((k : Int), a0, (a0 + st))]) (HC2.out.later (((Below.refl w2.heap.size w2).alloc (Nat.le_refl _) (.cells #[.int .i64 k, .int .i64 a0, .int .i64 (a0 + st)] 79)).drew)) hgrow2 (fun g e => (HLT0.out g e).1) (by
        have e1 : (ps ++ [((k : Int), a0, (a0 + st))]).length = ps.length + 1 := by simp
        have e2 : partCells (ps ++ [((k : Int), a0, (a0 + st))]) = partCells ps ++ [.int .i64 k, .int .i64 a0, .int .i64 (a0 + st)] := by simp [partCells]
        rw [e1, e2]
        exact hown2))
      have d8 := (show w3.cell? ⟨B, 8, none⟩ = some u from hgrow2.cell (cell_later' (((Below.refl w2.heap.size w2).alloc (Nat.le_refl _) _).drew) c8) (fun e => by have := (HLT0.out B e.symm).1; have := HBB.out; omega))
      have d9 := (show w3.frozen? ⟨B, 8, none⟩ = false from (hgrow2.frozen_far ⟨B, 8, none⟩ (by have := cell_lt c8; simp; omega) (fun e => by have := (HLT0.out B e.symm).1; have := HBB.out; omega)).trans (frozen_later (((Below.refl w2.heap.size w2).alloc (Nat.le_refl _) _).drew) c8 f8))
      refine wpAnyH_take (i := 27) (v := ?v26) rfl (by kernel_rfl) (by kernel_rfl) (by kernel_rfl) (fun _ _ _ h => h) (Or.inl ⟨by rfl, ?hy26⟩) (by assumption) ?rest26
      case hy26 => (intro w hSw; (try dsimp only at hSw); go_simp; try with_reducible rfl)
      try simp only [Act.put, List.setIfInBounds_toArray, List.set_cons_zero, List.set_cons_succ]
      refine wpAnyH_take (i := 28) (v := ?v27) rfl (by kernel_rfl) (by kernel_rfl) (by kernel_rfl) (fun _ _ _ h => h) (Or.inl ⟨by rfl, ?hy27⟩) (by assumption) ?rest27
      case hy27 => (intro w hSw; (try dsimp only at hSw); go_simp; try with_reducible rfl)
      try simp only [Act.put, List.setIfInBounds_toArray, List.set_cons_zero, List.set_cons_succ]
      refine wpAnyH_ready (rs := [29]) (by kernel_rfl) (by simp) ?_
      refine AllReadyH.cons rfl (fun K hK => ?_) AllReadyH.nil
      go_simp
      refine hK.out _ _ ?_ (fun _ => ?_)
      · exact ⟨by simp [go_sem, hS3.1], by simp [go_sem, hS3.2]⟩
      clear hK K
      try simp only [Act.put, List.setIfInBounds_toArray, List.set_cons_zero, List.set_cons_succ]
      refine wpAnyH_done (by kernel_rfl) ?_ _
      go_wp2_with fail
      go_ret
      exact ⟨rfl, _, (by first | exact HGR.out | (rw [if_neg HZ.out]; exact HGR.out))⟩
end Go.Proofs.Yteapmddadieohaa

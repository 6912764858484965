/- spec: a line that tells a piece. Own work. -/
import Derived.Test.YtcodpnkfpmjleaaGreatDoorMxAE
import Derived.Test.YtcodpnkfpmjleaaGreatDoorDwK
import Derived.Lib.QuietBelow
namespace Go.Proofs.YtcodpnkfpmjleaaGreatDoor
open Go.RowKit Go.Sort
set_option maxHeartbeats 4000000
set_option maxRecDepth 100000

theorem infoPiece : (Tryz.prog.info? 63).map (fun i => (i.zero, i.size, i.bytes)) = some (some (.agg #[.string ⟨#[]⟩, .int .i64 0, .int .i64 0, .int .i64 0]), 4, 40) := by kernel_rfl
/-- A row of words in memory. -/
def StrsAtR (w : World) (z : Option Addr) (ws : List Bl) : Prop := ∀ k (_ : k < ws.length), ∃ b o, z = some ⟨b, o, none⟩ ∧ w.cell? ⟨b, o + k, none⟩ = some (.string (sb ws[k]))
theorem StrsAtR.later {w w' : World} {z : Option Addr} {ws : List Bl} (h : StrsAtR w z ws) (hb : Below w.heap.size w w') : StrsAtR w' z ws := fun k hk => by
  obtain ⟨b, o, e, c⟩ := h k hk
  exact ⟨b, o, e, cell_later' hb c⟩
theorem strs_of_own {w : World} {base : Nat} {v : Value} {ws : List Bl} (h : w.ownsRow base 9 1 v ws.length (strCells ws)) : ∃ z c, v = .slice z ws.length c ∧ StrsAtR w z ws := by
  rcases h.2 with ⟨rfl, h0⟩ | ⟨g, cap, cur, rfl, _⟩
  · exact ⟨none, 0, by rw [h0], fun k hk => by omega⟩
  · refine ⟨_, cap, rfl, fun k hk => ⟨g, 0, rfl, ?_⟩⟩
    rw [Nat.zero_add, h.cellAt _ (by omega)]
    simp [strCells, hk]
/-- The net's box and what it holds. -/
structure NBx (base : Nat) (wr : World) (bn : Nat) (pv jv : Value) (ps : List Pc) (js : List Jr) : Prop where
  n0 : wr.cell? ⟨bn, 0, none⟩ = some pv
  n1 : wr.cell? ⟨bn, 1, none⟩ = some jv
  f : ∀ o, wr.frozen? ⟨bn, o, none⟩ = false
  op : wr.ownsRow base 63 4 pv ps.length (pcCells ps)
  kr : KR wr base jv js
  lo : bn < base
  hi : base ≤ wr.heap.size
/-- What stays: all but the box and one row. -/
structure Ko (bn : Nat) (v : Value) (w w' : World) : Prop where
  os : w'.os = w.os
  tape : w'.tape = w.tape
  output : w'.output = w.output
  size : w.heap.size ≤ w'.heap.size
  block : ∀ b, b < w.heap.size → b ≠ bn → v.ownBlock ≠ some b → w'.heap[b]? = w.heap[b]?
theorem Ko.of_below {bn : Nat} {v : Value} {w w' : World} (h : Below w.heap.size w w') : Ko bn v w w' := ⟨h.os, h.tape, h.output, h.size, fun b hb _ _ => h.block b hb⟩
theorem l1in_q {x a b : Int} {r : Bool} (h : inR x a b = r) (w : World) (d : Nat) (os : Array Obj) : Calls Tryz.prog 45 #[.int .i64 x, .int .i64 a, .int .i64 b] (grow (redrawn w d) os) fun e w'' =>
    e = .returned (.bool r) ∧ ∃ p : Regrown, w'' = grow (redrawn w p.d) p.os :=
  Calls.regrown_of ((l1in_any x a b _).mono fun _ _ h' => ⟨by rw [h'.1, h], by rw [← h'.2]; exact Below.refl _ _⟩)
theorem l2piece_q (a a' : Option Addr) (N : Nt) (cap m cap' : Nat) (name : ByteArray) (w : World) (hn : N.pcs.length ≤ 1048576) (hp : PcsAt w a N.pcs) (d : Nat) (os : Array Obj) : Calls Tryz.prog 73 #[.agg #[.slice a N.pcs.length cap, .slice a' m cap'], .string name] (grow (redrawn w d) os) fun e w'' =>
    e = .returned (.int .i64 (ixV (pieceIx N name))) ∧ ∃ p : Regrown, w'' = grow (redrawn w p.d) p.os :=
  Calls.regrown_of (l2piece_any a a' N cap m cap' name _ hn (hp.later (below_regrown w d os)))
theorem lit_eq {c l : Bl} (h : c = l) : ((sb c).toList == l) = true := by rw [sb_toList, beq_iff_eq]; exact h
theorem lit_ne {c l : Bl} (h : ¬ c = l) : ((sb c).toList == l) = false := by rw [sb_toList, beq_eq_false_iff_ne]; exact h
theorem ret_pc {base bn : Nat} {pv jv : Value} {N : Nt} {js : List Jr} {ws : List Bl} {c : Int} {w : World} (hR : pieceL N ws = (c, N)) (hN : NBx base w bn pv jv N.pcs js) {w0 : World} (hk : Ko bn pv w0 w) : ∃ pv', (Ending.returned (Value.int .i64 c)) = .returned (.int .i64 (pieceL N ws).1) ∧ NBx base w bn pv' jv (pieceL N ws).2.pcs js ∧ Ko bn pv w0 w := by
  rw [hR]
  exact ⟨pv, rfl, hN, hk⟩
theorem NBx.later {base bn : Nat} {pv jv : Value} {ps : List Pc} {js : List Jr} {w w' : World} (h : NBx base w bn pv jv ps js) (hb : Below w.heap.size w w') : NBx base w' bn pv jv ps js :=
  ⟨cell_later' hb h.n0, cell_later' hb h.n1, fun o => by rw [hb.frozen (p := ⟨bn, o, none⟩) (cell_lt h.n0)]; exact h.f o, owns_later' h.op hb, h.kr.later hb, h.lo, Nat.le_trans h.hi hb.size⟩
theorem KR.keptP {w w' : World} {base : Nat} {jv pv : Value} {js : List Jr} {ps : List Pc} (h : KR w base jv js) (hp : w.ownsRow base 63 4 pv ps.length (pcCells ps)) (hg : w.grownBy w' pv.ownBlock) : KR w' base jv js :=
  ⟨owns_kept h.own hp (by decide) hg, fun t ht => by obtain ⟨eb, h1, h2⟩ := h.ends t ht; exact ⟨eb, h1, owns_kept h2 hp (by decide) hg⟩, h.apart⟩
theorem NBx.ne {base bn : Nat} {pv jv : Value} {ps : List Pc} {js : List Jr} {w : World} (h : NBx base w bn pv jv ps js) : some bn ≠ pv.ownBlock := fun e => by
  have := (h.op.lt bn e.symm).1
  have := h.lo
  omega
theorem NBx.at7 {base bn : Nat} {pv jv : Value} {ps : List Pc} {js : List Jr} {w w' : World} (h : NBx base w bn pv jv ps js) (hg : w.grownBy w' pv.ownBlock) : w'.cell? ⟨bn, 0, none⟩ = some pv ∧ w'.cell? ⟨bn, 1, none⟩ = some jv ∧ ∀ o, w'.frozen? ⟨bn, o, none⟩ = false :=
  have eB : w'.heap[bn]? = w.heap[bn]? := hg.block bn (cell_lt h.n0) h.ne
  ⟨(World.cell?_of_block (a := ⟨bn, 0, none⟩) eB).trans h.n0, (World.cell?_of_block (a := ⟨bn, 1, none⟩) eB).trans h.n1, fun o => (World.frozen?_of_block (a := ⟨bn, o, none⟩) eB).trans (h.f o)⟩
theorem NBx.addP {base bn : Nat} {pv jv : Value} {ps : List Pc} {js : List Jr} {w w' : World} (h : NBx base w bn pv jv ps js) (hg : w.grownBy w' pv.ownBlock) {g cp : Nat} {p : Pc} (hown : w'.ownsRow base 63 4 (.slice (some ⟨g, 0, none⟩) (ps.length + 1) cp) (ps.length + 1) (pcCells ps ++ [.string p.name, .int .i64 p.len, .int .i64 p.speed, .int .i64 p.brake])) : NBx base (w'.setCell ⟨bn, 0, none⟩ (.slice (some ⟨g, 0, none⟩) (ps.length + 1) cp)) bn (.slice (some ⟨g, 0, none⟩) (ps.length + 1) cp) jv (ps ++ [p]) js := by
  obtain ⟨c0, c1, cf⟩ := h.at7 hg
  refine ⟨World.cell?_setCell_same _ _ _ c0, (World.cell?_setCell_other _ _ _ _ (by simp)).trans c1, fun o => (World.frozen?_setCell _ _ _ _).trans (cf o), ?_, (h.kr.keptP h.op hg).setBelow h.lo _, h.lo, by rw [World.size_setCell]; exact Nat.le_trans h.hi hg.size⟩
  rw [pcCells_add, List.length_append]
  exact ownsRow_setCell_below hown h.lo _
theorem Ko.add {bn : Nat} {v : Value} {w w2 w3 w4 : World} (h : Ko bn v w w2) (hb : Below w2.heap.size w2 w3) (hg : w3.grownBy w4 v.ownBlock) {o : Nat} (u : Value) : Ko bn v w (w4.setCell ⟨bn, o, none⟩ u) := by
  have h1 := h.size
  have h2 := hb.size
  have h3 := hg.size
  refine ⟨hg.os.trans (hb.os.trans h.os), hg.tape.trans (hb.tape.trans h.tape), hg.output.trans (hb.output.trans h.output), by rw [World.size_setCell]; omega, fun b hb' hne hv => ?_⟩
  rw [Below.heap_setCell _ _ _ b hne, hg.block b (by omega) (fun e => hv e.symm), hb.block b (by omega), h.block b hb' hne hv]
theorem l2trk_any (bn base : Nat) (z : Option Addr) (cz : Nat) (ws : List Bl) (pv jv : Value) (ps : List Pc) (js : List Jr) (w : World) (hn : ps.length ≤ 100000) (hs : ∀ x ∈ ws, x.length ≤ 1048576) (hN : NBx base w bn pv jv ps js) (hz : StrsAtR w z ws) (hl : ws.length ≤ 1048576) :
    Calls Tryz.prog 36 #[.pointer (some ⟨bn, 0, none⟩), .slice z ws.length cz] w fun e w' => ∃ pv', e = .returned (.int .i64 (pieceL ⟨ps, js.map (·.jt)⟩ ws).1) ∧ NBx base w' bn pv' jv (pieceL ⟨ps, js.map (·.jt)⟩ ws).2.pcs js ∧ Ko bn pv w w' := by
  obtain ⟨iP, hiP, hz0, hz1, hz2⟩ := info_parts infoPiece
  have HI := hide hiP
  have H0 := hide hz0
  have H1 := hide hz1
  have H2 := hide hz2
  have HN := hide hN
  have HZ := hide hz
  have HS := hide hs
  clear hN hz hs hiP hz0 hz1 hz2
  generalize hNN : (⟨ps, js.map (·.jt)⟩ : Nt) = N
  have hps : N.pcs = ps := by rw [← hNN]
  subst hps
  clear hNN
  by_cases h7 : ws.length = 7
  · obtain ⟨x0, x1, x2, x3, x4, x5, x6, rfl⟩ : ∃ x0 x1 x2 x3 x4 x5 x6, ws = [x0, x1, x2, x3, x4, x5, x6] := by
      match ws, h7 with
      | [x0, x1, x2, x3, x4, x5, x6], _ => exact ⟨x0, x1, x2, x3, x4, x5, x6, rfl⟩
    obtain ⟨b, o, rfl, c1⟩ := HZ.out 1 (by simp)
    obtain ⟨b', o', e2, c2⟩ := HZ.out 2 (by simp)
    obtain ⟨rfl, rfl⟩ : b = b' ∧ o = o' := by simpa using e2
    obtain ⟨b', o', e3, c3⟩ := HZ.out 3 (by simp)
    obtain ⟨rfl, rfl⟩ : b = b' ∧ o = o' := by simpa using e3
    obtain ⟨b', o', e4, c4⟩ := HZ.out 4 (by simp)
    obtain ⟨rfl, rfl⟩ : b = b' ∧ o = o' := by simpa using e4
    obtain ⟨b', o', e5, c5⟩ := HZ.out 5 (by simp)
    obtain ⟨rfl, rfl⟩ : b = b' ∧ o = o' := by simpa using e5
    obtain ⟨b', o', e6, c6⟩ := HZ.out 6 (by simp)
    obtain ⟨rfl, rfl⟩ : b = b' ∧ o = o' := by simpa using e6
    simp only [List.getElem_cons_succ, List.getElem_cons_zero] at c1 c2 c3 c4 c5 c6
    have hlb := cell_lt c1
    have hs1 : (sb x1).size ≤ 1048576 := by rw [sb_size]; exact HS.out x1 (by simp)
    have hs2 : (sb x2).size ≤ 1048576 := by rw [sb_size]; exact HS.out x2 (by simp)
    have hs4 : (sb x4).size ≤ 1048576 := by rw [sb_size]; exact HS.out x4 (by simp)
    have hs6 : (sb x6).size ≤ 1048576 := by rw [sb_size]; exact HS.out x6 (by simp)
    have HNO := hide (show ¬ (x3 = speedB ∧ x5 = brakeB ∧ nm (sb x1) = true ∧ numOk x2 = true ∧ numOk x4 = true ∧ numOk x6 = true) → pieceL N [x0, x1, x2, x3, x4, x5, x6] = (1, N) from fun h => by
      unfold pieceL
      dsimp only
      rw [if_neg h])
    clear e2 e3 e4 e5 e6 HS HZ h7 hl
    by_cases A : x3 = speedB
    · have g3 : ((sb x3).toList == [115, 112, 101, 101, 100]) = true := lit_eq A
      by_cases B : x5 = brakeB
      · have g5 : ((sb x5).toList == [98, 114, 97, 107, 101]) = true := lit_eq B
        cases C : nm (sb x1) with
        | true =>
          have HC := hide C
          have HB2 := hide (bs_sb x2)
          have HB4 := hide (bs_sb x4)
          have HB6 := hide (bs_sb x6)
          cases D2 : numOk x2 with
          | true =>
            cases D4 : numOk x4 with
            | true =>
              cases D6 : numOk x6 with
              | true =>
                have HYES := hide (show pieceL N [x0, x1, x2, x3, x4, x5, x6] = if (pieceIx N (sb x1)).isSome = false ∧ inR (valD x2) 1 10000000 = true ∧ inR (valD x4) 1 10000 = true ∧ inR (valD x6) 1 1000 = true then (0, ⟨N.pcs ++ [⟨sb x1, valD x2, valD x4, valD x6⟩], N.jts⟩) else (2, N) by
                  unfold pieceL
                  dsimp only
                  rw [if_pos ⟨A, B, C, D2, D4, D6⟩])
                have HD2 := hide D2
                have HD4 := hide D4
                have HD6 := hide D6
                obtain ⟨pa, pcap, rfl, hPA⟩ := pcs_at_of HN.out.op
                obtain ⟨ja, jcap, rfl, _⟩ := kjts_at_of HN.out.kr
                have n0 := HN.out.n0
                have n1 := HN.out.n1
                have hlo := HN.out.lo
                have hltn := cell_lt n0
                have HPA := hide hPA
                clear A B C D2 D4 D6 HNO hPA
                go_enter Tryz.func36, Tryz.ntmps36
                go_upto_region 8 with (first
                  | (go_at_call 44; refine (l1name_any _ _ hs1).mono ?_; rintro e w2 ⟨rfl, hw⟩; subst hw; rw [HC.out])
                  | (go_at_call 72; with_reducible (refine (l2num_any (sb x2) _ hs2).mono ?_); rintro e w2 ⟨n2, rfl, hn2, hw⟩; subst hw; rw [HB2.out, HD2.out])
                  | (go_at_call 72; with_reducible (refine (l2num_any (sb x4) _ hs4).mono ?_); rintro e w2 ⟨n4, rfl, hn4, hw⟩; subst hw; rw [HB4.out, HD4.out])
                  | (go_at_call 72; with_reducible (refine (l2num_any (sb x6) _ hs6).mono ?_); rintro e w2 ⟨n6, rfl, hn6, hw⟩; subst hw; rw [HB6.out, HD6.out]))
                obtain rfl : n2 = valD x2 := by rw [hn2 (by rw [HB2.out]; exact HD2.out), HB2.out]
                obtain rfl : n4 = valD x4 := by rw [hn4 (by rw [HB4.out]; exact HD4.out), HB4.out]
                obtain rfl : n6 = valD x6 := by rw [hn6 (by rw [HB6.out]; exact HD6.out), HB6.out]
                clear hn2 hn4 hn6
                have hle : N.pcs.length ≤ 1048576 := by omega
                have HLP := hide (fun d os => l2piece_q pa ja N pcap js.length jcap (sb x1) w hle HPA.out d os)
                obtain ⟨bad, hbad⟩ : ∃ bad : Bool, (bad = false ↔ ((pieceIx N (sb x1)).isSome = false ∧ inR (valD x2) 1 10000000 = true ∧ inR (valD x4) 1 10000 = true ∧ inR (valD x6) 1 1000 = true)) := ⟨!decide ((pieceIx N (sb x1)).isSome = false ∧ inR (valD x2) 1 10000000 = true ∧ inR (valD x4) 1 10000 = true ∧ inR (valD x6) 1 1000 = true), by simp⟩
                have HBAD := hide hbad
                clear hbad
                go_cut [86] from 11 (fun s86 wz => s86 = .bool bad ∧ Hid (Below w.heap.size w wz))
                case first =>
                  have k0 := cell_regrown n0
                  have k1 := cell_regrown n1
                  have k2 := cell_regrown c1
                  clear c2 c3 c4 c5 c6
                  cases hT : (pieceIx N (sb x1)).isSome with
                  | true =>
                    obtain rfl : bad = true := by
                      cases hb : bad with
                      | true => rfl
                      | false => have := (HBAD.out.1 hb).1; rw [hT] at this; cases this
                    have gT : decide (ixV (pieceIx N (sb x1)) ≥ 0) = true := by
                      obtain ⟨i, hi⟩ := Option.isSome_iff_exists.1 hT
                      rw [hi]
                      simp [ixV]
                    have HQ2 := hide trivial
                    have HQ4 := hide trivial
                    have HQ6 := hide trivial
                    clear hT
                    refine wp_region_quiet_below (by kernel_rfl) (by kernel_rfl) ?_
                    repeat (go_big_quiet_step (first | (with_reducible exact HLP.out _ _) | (with_reducible exact HQ2.out _ _) | (with_reducible exact HQ4.out _ _) | (with_reducible exact HQ6.out _ _)))
                    refine wpQuiet_nil ?_
                    intro _ hw'
                    obtain ⟨⟨dq, osq⟩, hw''⟩ := hw'
                    subst hw''
                    have HBQ := hide (below_regrown w dq osq)
                    go_wp2_with fail
                    go_meet
                    case rel => exact ⟨rfl, HBQ⟩
                  | false =>
                    have gT : decide (ixV (pieceIx N (sb x1)) ≥ 0) = false := by
                      rw [Option.isSome_eq_false_iff, Option.isNone_iff_eq_none] at hT
                      rw [hT]
                      simp [ixV]
                    cases h2 : inR (valD x2) 1 10000000 with
                    | false =>
                      obtain rfl : bad = true := by
                        cases hb : bad with
                        | true => rfl
                        | false => have := (HBAD.out.1 hb).2.1; rw [h2] at this; cases this
                      have HQ2 := hide (fun d os => l1in_q h2 w d os)
                      have HQ4 := hide trivial
                      have HQ6 := hide trivial
                      clear hT h2
                      refine wp_region_quiet_below (by kernel_rfl) (by kernel_rfl) ?_
                      repeat (go_big_quiet_step (first | (with_reducible exact HLP.out _ _) | (with_reducible exact HQ2.out _ _) | (with_reducible exact HQ4.out _ _) | (with_reducible exact HQ6.out _ _)))
                      refine wpQuiet_nil ?_
                      intro _ hw'
                      obtain ⟨⟨dq, osq⟩, hw''⟩ := hw'
                      subst hw''
                      have HBQ := hide (below_regrown w dq osq)
                      go_wp2_with fail
                      go_meet
                      case rel => exact ⟨rfl, HBQ⟩
                    | true =>
                      have HQ2 := hide (fun d os => l1in_q h2 w d os)
                      cases h4 : inR (valD x4) 1 10000 with
                      | false =>
                        obtain rfl : bad = true := by
                          cases hb : bad with
                          | true => rfl
                          | false => have := (HBAD.out.1 hb).2.2.1; rw [h4] at this; cases this
                        have HQ4 := hide (fun d os => l1in_q h4 w d os)
                        have HQ6 := hide trivial
                        clear hT h2 h4
                        refine wp_region_quiet_below (by kernel_rfl) (by kernel_rfl) ?_
                        repeat (go_big_quiet_step (first | (with_reducible exact HLP.out _ _) | (with_reducible exact HQ2.out _ _) | (with_reducible exact HQ4.out _ _) | (with_reducible exact HQ6.out _ _)))
                        refine wpQuiet_nil ?_
                        intro _ hw'
                        obtain ⟨⟨dq, osq⟩, hw''⟩ := hw'
                        subst hw''
                        have HBQ := hide (below_regrown w dq osq)
                        go_wp2_with fail
                        go_meet
                        case rel => exact ⟨rfl, HBQ⟩
                      | true =>
                        have HQ4 := hide (fun d os => l1in_q h4 w d os)
                        cases h6 : inR (valD x6) 1 1000 with
                        | false =>
                          obtain rfl : bad = true := by
                            cases hb : bad with
                            | true => rfl
                            | false => have := (HBAD.out.1 hb).2.2.2; rw [h6] at this; cases this
                          have HQ6 := hide (fun d os => l1in_q h6 w d os)
                          clear hT h2 h4 h6
                          refine wp_region_quiet_below (by kernel_rfl) (by kernel_rfl) ?_
                          repeat (go_big_quiet_step (first | (with_reducible exact HLP.out _ _) | (with_reducible exact HQ2.out _ _) | (with_reducible exact HQ4.out _ _) | (with_reducible exact HQ6.out _ _)))
                          refine wpQuiet_nil ?_
                          intro _ hw'
                          obtain ⟨⟨dq, osq⟩, hw''⟩ := hw'
                          subst hw''
                          have HBQ := hide (below_regrown w dq osq)
                          go_wp2_with fail
                          go_meet
                          case rel => exact ⟨rfl, HBQ⟩
                        | true =>
                          obtain rfl : bad = false := HBAD.out.2 ⟨hT, h2, h4, h6⟩
                          have HQ6 := hide (fun d os => l1in_q h6 w d os)
                          clear hT h2 h4 h6
                          refine wp_region_quiet_below (by kernel_rfl) (by kernel_rfl) ?_
                          repeat (go_big_quiet_step (first | (with_reducible exact HLP.out _ _) | (with_reducible exact HQ2.out _ _) | (with_reducible exact HQ4.out _ _) | (with_reducible exact HQ6.out _ _)))
                          refine wpQuiet_nil ?_
                          intro _ hw'
                          obtain ⟨⟨dq, osq⟩, hw''⟩ := hw'
                          subst hw''
                          have HBQ := hide (below_regrown w dq osq)
                          go_wp2_with fail
                          go_meet
                          case rel => exact ⟨rfl, HBQ⟩
                case rest =>
                  obtain ⟨rfl, HBZ⟩ := hcut
                  rename World => w2
                  have HN2 := hide (HN.out.later HBZ.out)
                  replace c1 := cell_later' HBZ.out c1
                  cases bad with
                  | true =>
                    have HR := hide (show pieceL N [x0, x1, x2, x3, x4, x5, x6] = (2, N) by rw [HYES.out, if_neg (fun h => by have := HBAD.out.2 h; cases this)])
                    go_wp2_with fail
                    go_ret
                    exact ret_pc HR.out HN2.out (Ko.of_below HBZ.out)
                  | false =>
                    have HR := hide (show pieceL N [x0, x1, x2, x3, x4, x5, x6] = (0, ⟨N.pcs ++ [⟨sb x1, valD x2, valD x4, valD x6⟩], N.jts⟩) by rw [HYES.out, if_pos (HBAD.out.1 rfl)])
                    replace n0 := HN2.out.n0
                    replace n1 := HN2.out.n1
                    have f0 := HN2.out.f 0
                    replace hltn := cell_lt n0
                    replace hlb := cell_lt c1
                    have hml : N.pcs.length + 1 ≤ maxLen := by unfold maxLen; omega
                    have HNd := hide (HN2.out.later (((Below.refl w2.heap.size w2).drew).alloc (by simp) (.cells #[.string (sb x1), .int .i64 (valD x2), .int .i64 (valD x4), .int .i64 (valD x6)] 63)))
                    have HKd := hide (show Below w2.heap.size w2 (w2.drew.alloc (.cells #[.string (sb x1), .int .i64 (valD x2), .int .i64 (valD x4), .int .i64 (valD x6)] 63)) from ((Below.refl w2.heap.size w2).drew).alloc (by simp) _)
                    have hbs : base ≤ w2.heap.size + 1 := by have := HN2.out.hi; omega
                    go_upto_region 10 with fail
                    go_region_law (first
                      | (refine step_append_lies _ (by rfl) _ _ _ (by rfl) base 63 iP _ 4 40 Tryz.underlying23 HI.out H0.out H1.out H2.out rfl (by omega) (.slice pa N.pcs.length pcap) N.pcs.length (pcCells N.pcs) (by rfl) HNd.out.op ⟨_, 0, none⟩ 1 1 [.string (sb x1), .int .i64 (valD x2), .int .i64 (valD x4), .int .i64 (valD x6)] (by rfl) (by rfl) (World.news_of_block (heap_alloc_new _ _)) (by simp [Value.oneCell']) (by omega) hml (by omega) (by simp; omega) _ rfl ?_; intro g2 cp2 w7 hown2 hgrow2 _ _; have HO7 := hide hown2; have HG7 := hide hgrow2; have hx7 := HNd.out.at7 hgrow2; obtain ⟨x7, y7, f7⟩ := hx7; have f70 := f7 0))
                    all_goals
                      have HNN := hide (HNd.out.addP (p := ⟨sb x1, valD x2, valD x4, valD x6⟩) HG7.out HO7.out)
                      have HKN := hide ((Ko.of_below (bn := bn) (v := .slice pa N.pcs.length pcap) HBZ.out).add HKd.out HG7.out (o := 0) (.slice (some ⟨g2, 0, none⟩) (N.pcs.length + 1) cp2))
                      go_wp2_with fail
                      go_ret
                      rw [HR.out]
                      first
                        | exact ⟨rfl, ⟨_, HNN.out⟩, HKN.out⟩
                        | exact ⟨_, rfl, HNN.out, HKN.out⟩
              | false =>
                have HR := hide (HNO.out (fun h => by rw [D6] at h; exact Bool.noConfusion h.2.2.2.2.2))
                have HD2 := hide D2
                have HD4 := hide D4
                have HD6 := hide D6
                clear A B C D2 D4 D6 HNO
                go_enter Tryz.func36, Tryz.ntmps36
                go_wp2_with (first
                  | (go_at_call 44; refine (l1name_any _ _ hs1).mono ?_; rintro e w2 ⟨rfl, hw⟩; subst hw; rw [HC.out])
                  | (go_at_call 72; with_reducible (refine (l2num_any (sb x2) _ hs2).mono ?_); rintro e w2 ⟨n2, rfl, hn2, hw⟩; subst hw; rw [HB2.out, HD2.out])
                  | (go_at_call 72; with_reducible (refine (l2num_any (sb x4) _ hs4).mono ?_); rintro e w2 ⟨n4, rfl, hn4, hw⟩; subst hw; rw [HB4.out, HD4.out])
                  | (go_at_call 72; with_reducible (refine (l2num_any (sb x6) _ hs6).mono ?_); rintro e w2 ⟨n6, rfl, hn6, hw⟩; subst hw; rw [HB6.out, HD6.out]))
                go_ret
                exact ret_pc HR.out HN.out (Ko.of_below (Below.refl _ _))
            | false =>
              cases D6 : numOk x6 with
              | true =>
                have HR := hide (HNO.out (fun h => by rw [D4] at h; exact Bool.noConfusion h.2.2.2.2.1))
                have HD2 := hide D2
                have HD4 := hide D4
                have HD6 := hide D6
                clear A B C D2 D4 D6 HNO
                go_enter Tryz.func36, Tryz.ntmps36
                go_wp2_with (first
                  | (go_at_call 44; refine (l1name_any _ _ hs1).mono ?_; rintro e w2 ⟨rfl, hw⟩; subst hw; rw [HC.out])
                  | (go_at_call 72; with_reducible (refine (l2num_any (sb x2) _ hs2).mono ?_); rintro e w2 ⟨n2, rfl, hn2, hw⟩; subst hw; rw [HB2.out, HD2.out])
                  | (go_at_call 72; with_reducible (refine (l2num_any (sb x4) _ hs4).mono ?_); rintro e w2 ⟨n4, rfl, hn4, hw⟩; subst hw; rw [HB4.out, HD4.out])
                  | (go_at_call 72; with_reducible (refine (l2num_any (sb x6) _ hs6).mono ?_); rintro e w2 ⟨n6, rfl, hn6, hw⟩; subst hw; rw [HB6.out, HD6.out]))
                go_ret
                exact ret_pc HR.out HN.out (Ko.of_below (Below.refl _ _))
              | false =>
                have HR := hide (HNO.out (fun h => by rw [D4] at h; exact Bool.noConfusion h.2.2.2.2.1))
                have HD2 := hide D2
                have HD4 := hide D4
                have HD6 := hide D6
                clear A B C D2 D4 D6 HNO
                go_enter Tryz.func36, Tryz.ntmps36
                go_wp2_with (first
                  | (go_at_call 44; refine (l1name_any _ _ hs1).mono ?_; rintro e w2 ⟨rfl, hw⟩; subst hw; rw [HC.out])
                  | (go_at_call 72; with_reducible (refine (l2num_any (sb x2) _ hs2).mono ?_); rintro e w2 ⟨n2, rfl, hn2, hw⟩; subst hw; rw [HB2.out, HD2.out])
                  | (go_at_call 72; with_reducible (refine (l2num_any (sb x4) _ hs4).mono ?_); rintro e w2 ⟨n4, rfl, hn4, hw⟩; subst hw; rw [HB4.out, HD4.out])
                  | (go_at_call 72; with_reducible (refine (l2num_any (sb x6) _ hs6).mono ?_); rintro e w2 ⟨n6, rfl, hn6, hw⟩; subst hw; rw [HB6.out, HD6.out]))
                go_ret
                exact ret_pc HR.out HN.out (Ko.of_below (Below.refl _ _))
          | false =>
            cases D4 : numOk x4 with
            | true =>
              cases D6 : numOk x6 with
              | true =>
                have HR := hide (HNO.out (fun h => by rw [D2] at h; exact Bool.noConfusion h.2.2.2.1))
                have HD2 := hide D2
                have HD4 := hide D4
                have HD6 := hide D6
                clear A B C D2 D4 D6 HNO
                go_enter Tryz.func36, Tryz.ntmps36
                go_wp2_with (first
                  | (go_at_call 44; refine (l1name_any _ _ hs1).mono ?_; rintro e w2 ⟨rfl, hw⟩; subst hw; rw [HC.out])
                  | (go_at_call 72; with_reducible (refine (l2num_any (sb x2) _ hs2).mono ?_); rintro e w2 ⟨n2, rfl, hn2, hw⟩; subst hw; rw [HB2.out, HD2.out])
                  | (go_at_call 72; with_reducible (refine (l2num_any (sb x4) _ hs4).mono ?_); rintro e w2 ⟨n4, rfl, hn4, hw⟩; subst hw; rw [HB4.out, HD4.out])
                  | (go_at_call 72; with_reducible (refine (l2num_any (sb x6) _ hs6).mono ?_); rintro e w2 ⟨n6, rfl, hn6, hw⟩; subst hw; rw [HB6.out, HD6.out]))
                go_ret
                exact ret_pc HR.out HN.out (Ko.of_below (Below.refl _ _))
              | false =>
                have HR := hide (HNO.out (fun h => by rw [D2] at h; exact Bool.noConfusion h.2.2.2.1))
                have HD2 := hide D2
                have HD4 := hide D4
                have HD6 := hide D6
                clear A B C D2 D4 D6 HNO
                go_enter Tryz.func36, Tryz.ntmps36
                go_wp2_with (first
                  | (go_at_call 44; refine (l1name_any _ _ hs1).mono ?_; rintro e w2 ⟨rfl, hw⟩; subst hw; rw [HC.out])
                  | (go_at_call 72; with_reducible (refine (l2num_any (sb x2) _ hs2).mono ?_); rintro e w2 ⟨n2, rfl, hn2, hw⟩; subst hw; rw [HB2.out, HD2.out])
                  | (go_at_call 72; with_reducible (refine (l2num_any (sb x4) _ hs4).mono ?_); rintro e w2 ⟨n4, rfl, hn4, hw⟩; subst hw; rw [HB4.out, HD4.out])
                  | (go_at_call 72; with_reducible (refine (l2num_any (sb x6) _ hs6).mono ?_); rintro e w2 ⟨n6, rfl, hn6, hw⟩; subst hw; rw [HB6.out, HD6.out]))
                go_ret
                exact ret_pc HR.out HN.out (Ko.of_below (Below.refl _ _))
            | false =>
              cases D6 : numOk x6 with
              | true =>
                have HR := hide (HNO.out (fun h => by rw [D2] at h; exact Bool.noConfusion h.2.2.2.1))
                have HD2 := hide D2
                have HD4 := hide D4
                have HD6 := hide D6
                clear A B C D2 D4 D6 HNO
                go_enter Tryz.func36, Tryz.ntmps36
                go_wp2_with (first
                  | (go_at_call 44; refine (l1name_any _ _ hs1).mono ?_; rintro e w2 ⟨rfl, hw⟩; subst hw; rw [HC.out])
                  | (go_at_call 72; with_reducible (refine (l2num_any (sb x2) _ hs2).mono ?_); rintro e w2 ⟨n2, rfl, hn2, hw⟩; subst hw; rw [HB2.out, HD2.out])
                  | (go_at_call 72; with_reducible (refine (l2num_any (sb x4) _ hs4).mono ?_); rintro e w2 ⟨n4, rfl, hn4, hw⟩; subst hw; rw [HB4.out, HD4.out])
                  | (go_at_call 72; with_reducible (refine (l2num_any (sb x6) _ hs6).mono ?_); rintro e w2 ⟨n6, rfl, hn6, hw⟩; subst hw; rw [HB6.out, HD6.out]))
                go_ret
                exact ret_pc HR.out HN.out (Ko.of_below (Below.refl _ _))
              | false =>
                have HR := hide (HNO.out (fun h => by rw [D2] at h; exact Bool.noConfusion h.2.2.2.1))
                have HD2 := hide D2
                have HD4 := hide D4
                have HD6 := hide D6
                clear A B C D2 D4 D6 HNO
                go_enter Tryz.func36, Tryz.ntmps36
                go_wp2_with (first
                  | (go_at_call 44; refine (l1name_any _ _ hs1).mono ?_; rintro e w2 ⟨rfl, hw⟩; subst hw; rw [HC.out])
                  | (go_at_call 72; with_reducible (refine (l2num_any (sb x2) _ hs2).mono ?_); rintro e w2 ⟨n2, rfl, hn2, hw⟩; subst hw; rw [HB2.out, HD2.out])
                  | (go_at_call 72; with_reducible (refine (l2num_any (sb x4) _ hs4).mono ?_); rintro e w2 ⟨n4, rfl, hn4, hw⟩; subst hw; rw [HB4.out, HD4.out])
                  | (go_at_call 72; with_reducible (refine (l2num_any (sb x6) _ hs6).mono ?_); rintro e w2 ⟨n6, rfl, hn6, hw⟩; subst hw; rw [HB6.out, HD6.out]))
                go_ret
                exact ret_pc HR.out HN.out (Ko.of_below (Below.refl _ _))
        | false =>
          have HR := hide (HNO.out (fun h => by rw [C] at h; exact Bool.noConfusion h.2.2.1))
          have HC := hide C
          clear A B C HNO
          go_enter Tryz.func36, Tryz.ntmps36
          go_wp2_with (go_at_call 44; refine (l1name_any _ _ hs1).mono ?_; rintro e w2 ⟨rfl, hw⟩; subst hw; rw [HC.out])
          go_ret
          exact ret_pc HR.out HN.out (Ko.of_below (Below.refl _ _))
      · have g5 : ((sb x5).toList == [98, 114, 97, 107, 101]) = false := lit_ne B
        have HR := hide (HNO.out (fun h => B h.2.1))
        clear A B HNO
        go_enter Tryz.func36, Tryz.ntmps36
        go_wp2_with fail
        go_ret
        exact ret_pc HR.out HN.out (Ko.of_below (Below.refl _ _))
    · have g3 : ((sb x3).toList == [115, 112, 101, 101, 100]) = false := lit_ne A
      have HR := hide (HNO.out (fun h => A h.1))
      clear A HNO
      go_enter Tryz.func36, Tryz.ntmps36
      go_wp2_with fail
      go_ret
      exact ret_pc HR.out HN.out (Ko.of_below (Below.refl _ _))
  · have HR := hide (show pieceL N ws = (1, N) by
      unfold pieceL
      split
      · exact absurd rfl h7
      · rfl)
    have g7 : ((ws.length : Int) != 7) = true := by simp; omega
    clear h7
    go_enter Tryz.func36, Tryz.ntmps36
    go_wp2_with fail
    go_ret
    exact ret_pc HR.out HN.out (Ko.of_below (Below.refl _ _))
end Go.Proofs.YtcodpnkfpmjleaaGreatDoor

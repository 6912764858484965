/- impl.Drive. Own work. -/
import Derived.Test.YtldafgbhjpfboaaGreatCuY
import Derived.Test.YtldafgbhjpfboaaGreatMxAN
import Derived.Deep.QuietTactic
import Derived.BigQuiet
import Derived.Test.YtldafgbhjpfboaaGreatMxAI
import Derived.Test.YtldafgbhjpfboaaGreatMxAO
import Derived.Test.YtldafgbhjpfboaaGreatMxAA
import Derived.Test.YtldafgbhjpfboaaGreatSxI
import Derived.Test.YtldafgbhjpfboaaGreatSxS
namespace Go.Proofs.YtldafgbhjpfboaaGreat
open Go.RowKit
set_option maxHeartbeats 2000000

theorem implDrive_any : DriveDone := by
  intro a a' z N cap cap' zc xs q at' way far w hwf _ _ hn hs hl hm _ hp hj hz
  have HP := hide hp
  have HJ := hide hj
  have HZ := hide hz
  have HM := hide hm
  have HS := hide hs
  have HWF := hide hwf
  clear hp hj hz hm hs hwf
  have hbW : Below w.heap.size w (((w.alloc (.cells #[.slice a N.pcs.length cap, .slice a' N.jts.length cap'] 26)).alloc (.cells #[.int .i64 q, .int .i64 at', .int .i64 way] 29)).alloc (.cells #[.int .i64 0, .int .i64 0, .int .i64 0, .int .i64 0, .int .i64 0, .int .i64 0] 49)) := (((Below.refl _ _).alloc (Nat.le_refl _) _).alloc (by simp) _).alloc (by simp; omega) _
  have hS6 := six_new ((w.alloc (.cells #[.slice a N.pcs.length cap, .slice a' N.jts.length cap'] 26)).alloc (.cells #[.int .i64 q, .int .i64 at', .int .i64 way] 29)) 49
  rw [show ((w.alloc (.cells #[.slice a N.pcs.length cap, .slice a' N.jts.length cap'] 26)).alloc (.cells #[.int .i64 q, .int .i64 at', .int .i64 way] 29)).heap.size = w.heap.size + 1 + 1 by simp] at hS6
  go_enter Tryz.func15, Tryz.ntmps15
  go_wp2_with fail
  generalize (((w.alloc (.cells #[.slice a N.pcs.length cap, .slice a' N.jts.length cap'] 26)).alloc (.cells #[.int .i64 q, .int .i64 at', .int .i64 way] 29)).alloc (.cells #[.int .i64 0, .int .i64 0, .int .i64 0, .int .i64 0, .int .i64 0, .int .i64 0] 49)) = w1 at *
  have H6 := hide hS6
  clear hS6
  refine (drive_any a a' z N cap cap' zc xs q at' way far _ HWF.out hn HS.out hl HM.out (HP.out.later hbW) (HJ.out.later hbW) (HZ.out.later hbW)).mono ?_
  rintro e w2 ⟨⟨cd, f, jn, q2, a2, y2, ps2⟩, v, hDA, _, rfl, _, hb2⟩
  have HDA := hide hDA
  have HB2 := hide (hbW.trans (hb2.mono hbW.size))
  obtain ⟨r0, r1, r2, r3, r4, r5, g0, g1, g2, g3, g4, g5⟩ := H6.out.later hb2
  have hlt := cell_lt r0
  clear hDA hb2 hbW
  dsimp only
  go_wp2_with fail
  refine bodyPost_ret (v := .agg #[.int .i64 cd, .int .i64 f, .int .i64 jn, .int .i64 q2, .int .i64 a2, .int .i64 y2]) (by simp [results, Tryz.results15, go_sem, r0, r1, r2, r3, r4, r5, hlt]) rfl ?_
  have h6 := below6 HB2.out (.int .i64 cd) (.int .i64 f) (.int .i64 jn) (.int .i64 q2) (.int .i64 a2) (.int .i64 y2)
  exact ⟨⟨cd, f, jn, q2, a2, y2, []⟩, HDA.out, rfl, h6.alloc h6.size _⟩
end Go.Proofs.YtldafgbhjpfboaaGreat

/- laws.wParts at equal lists. Own work. -/
namespace Go.Proofs.YtldafgbhjpfboaaGreat
open Go.RowKit
set_option maxHeartbeats 2000000

theorem wParts_same (a a' : Option Addr) (es : List (Int × Int × Int)) (cap cap' : Nat) (w : World) (hn : es.length ≤ 1048576) (hp : PartsAt w a es) (hp' : PartsAt w a' es) :
    Calls Tryz.prog 11 #[.slice a es.length cap, .slice a' es.length cap'] w fun e w' => e = .returned (.bool true) ∧ Below w.heap.size w w' := by
  have HP := hide hp
  have HP' := hide hp'
  clear hp hp'
  go_enter Tryz.func11, Tryz.ntmps11
  go_wp2
  go_loopw [5, 13] (fun _ i wr => ∃ (k : Nat), k ≤ es.length ∧ i = .int .i64 k ∧ Below w.heap.size w wr) (fun _ i _ => es.length - (intOf i).toNat)
  case atStart => exact ⟨0, Nat.zero_le _, rfl, Below.refl _ _⟩
  case round =>
    obtain ⟨k, hk, rfl, hb⟩ := hrel
    by_cases hlt : k < es.length
    · obtain ⟨b, off, rfl, c0, c1, c2⟩ := (PartsAt.later HP.out hb) k hlt
      obtain ⟨b', off', rfl, d0, d1, d2⟩ := (PartsAt.later HP'.out hb) k hlt
      have hi1 : (k : Int) < (es.length : Int) := by omega
      go_wp2_with fail
      go_quiet (fail)
      go_wp2_with fail
      exact ⟨⟨k + 1, by omega, by go_num, below_drewN hb _⟩, by simp [intOf]; omega⟩
    · go_wp2_with fail
      go_ret
      exact ⟨rfl, hb⟩
end Go.Proofs.YtldafgbhjpfboaaGreat

/- impl.Turn. Own work. -/
namespace Go.Proofs.YtldafgbhjpfboaaGreat
open Go.RowKit
set_option maxHeartbeats 2000000

theorem implTurn_any : TurnDone := by
  intro a a' N cap cap' q at' way w hwf hn hs hl hm hp hj
  have HP := hide hp
  have HJ := hide hj
  have HM := hide hm
  have HS := hide hs
  have HWF := hide hwf
  clear hp hj hm hs hwf
  go_enter Tryz.func8, Tryz.ntmps8
  go_wp2_with fail
  have hbW : Below w.heap.size w (((w.alloc (.cells #[.slice a N.pcs.length cap, .slice a' N.jts.length cap'] 26)).alloc (.cells #[.int .i64 q, .int .i64 at', .int .i64 way] 29)).alloc (.cells #[.int .i64 0, .int .i64 0, .int .i64 0] 29)) := (((Below.refl _ _).alloc (Nat.le_refl _) _).alloc (by simp) _).alloc (by simp; omega) _
  refine (implSpotOk_any a a' N cap cap' q at' way _ HWF.out hn HS.out hl HM.out (HP.out.later hbW) (HJ.out.later hbW)).mono ?_
  rintro e w1 ⟨rfl, hb1⟩
  have hb2 := hbW.trans (hb1.mono hbW.size)
  obtain ⟨hc, hf⟩ := bcell hb1
  have e0 : w1.cell? ⟨w.heap.size + 1, 0, none⟩ = some (.int .i64 q) := by rw [hc _ _ (by simp)]; simp [go_sem]
  have e1 : w1.cell? ⟨w.heap.size + 1, 1, none⟩ = some (.int .i64 at') := by rw [hc _ _ (by simp)]; simp [go_sem]
  have e2 : w1.cell? ⟨w.heap.size + 1, 2, none⟩ = some (.int .i64 way) := by rw [hc _ _ (by simp)]; simp [go_sem]
  have ef : w1.frozen? ⟨w.heap.size + 1, 2, none⟩ = false := by rw [hf _ _ (by simp)]; simp [go_sem]
  have r0 : w1.cell? ⟨w.heap.size + 1 + 1, 0, none⟩ = some (.int .i64 0) := by rw [hc _ _ (by simp)]; simp [go_sem]
  have r1 : w1.cell? ⟨w.heap.size + 1 + 1, 1, none⟩ = some (.int .i64 0) := by rw [hc _ _ (by simp)]; simp [go_sem]
  have r2 : w1.cell? ⟨w.heap.size + 1 + 1, 2, none⟩ = some (.int .i64 0) := by rw [hc _ _ (by simp)]; simp [go_sem]
  have f0 : w1.frozen? ⟨w.heap.size + 1 + 1, 0, none⟩ = false := by rw [hf _ _ (by simp)]; simp [go_sem]
  have f1 : w1.frozen? ⟨w.heap.size + 1 + 1, 1, none⟩ = false := by rw [hf _ _ (by simp)]; simp [go_sem]
  have f2 : w1.frozen? ⟨w.heap.size + 1 + 1, 2, none⟩ = false := by rw [hf _ _ (by simp)]; simp [go_sem]
  clear hc hf hb1
  cases hr : spotOkP N q at' way
  · have HR := hide hr
    clear hr
    go_wp2_with fail
    exact bodyPost_ret (v := .agg #[.int .i64 0, .int .i64 0, .int .i64 0]) (by simp [results, Tryz.results8, go_sem, r0, r1, r2]) rfl ⟨by rw [turnP, HR.out]; rfl, ((hb2.setCell (by simp; omega) _).setCell (by simp; omega) _).setCell (by simp; omega) _⟩
  · have HR := hide hr
    have hw := spotOk_way hr
    have hw0 : -1 ≤ way ∧ way ≤ 1 := by omega
    clear hr hw
    go_wp2_with fail
    refine bodyPost_ret (v := .agg #[.int .i64 q, .int .i64 at', .int .i64 (-way)]) (by simp [results, Tryz.results8, go_sem, r0, r1, r2]) rfl ⟨by rw [turnP, HR.out]; rfl, ?_⟩
    repeat (refine Below.setCell ?_ (by simp; try omega) _)
    exact hb2
end Go.Proofs.YtldafgbhjpfboaaGreat

/- The laws FnExactPartsLen and FnExactTouch: their walks, over whatever impl answers as it should. Own work. -/
namespace Go.Proofs.YtldafgbhjpfboaaGreat
open Go.RowKit
set_option maxHeartbeats 2000000

theorem info_Part : (Tryz.prog.info? 87).map (fun i => (i.zero, i.size, i.bytes)) = some (some (.agg #[.int .i64 0, .int .i64 0, .int .i64 0]), 3, 24) := by kernel_rfl

def WfP (ps : List Prt) : Prop := ∀ p ∈ ps, (Lit.int .i64 p.1).wf = true ∧ (Lit.int .i64 p.2.1).wf = true ∧ (Lit.int .i64 p.2.2).wf = true
/-- impl.PartsLen answers as it should. -/
def PartsLenDone : Prop := ∀ (a : Option Addr) (ps : List Prt) (cap : Nat) (w : World), WfP ps → ps.length ≤ 1048576 → PartsAt w a ps →
    Calls Tryz.prog 13 #[.slice a ps.length cap] w fun e w' => e = .returned (.int .i64 (partsLenP ps)) ∧ Below w.heap.size w w'
theorem chnP {a b c : World} (h : Below a.heap.size a b) (k : Below b.heap.size b c) : Below a.heap.size a c := h.trans (k.mono h.size)

end Go.Proofs.YtldafgbhjpfboaaGreat

/- impl.PartsLen. Own work. -/
namespace Go.Proofs.YtldafgbhjpfboaaGreat
open Go.RowKit
set_option maxHeartbeats 2000000

theorem inRange_c {x a b : Int} {r : Bool} (h : inR x a b = r) (w : World) : Calls Tryz.prog 30 #[.int .i64 x, .int .i64 a, .int .i64 b] w fun e w' =>
    e = .returned (.bool r) ∧ w = w' := (inRange_any x a b w).mono fun _ _ h' => ⟨by rw [h'.1, h], h'.2⟩

theorem implPartOk_any (x y z : Int) (w : World) :
    Calls Tryz.prog 53 #[.agg #[.int .i64 x, .int .i64 y, .int .i64 z]] w fun e w' => e = .returned (.bool (partOk (x, y, z))) ∧ Below w.heap.size w w' := by
  have hbA := (Below.refl w.heap.size w).alloc (Nat.le_refl _) (.cells #[.int .i64 x, .int .i64 y, .int .i64 z] 87)
  have HPK := hide (show partOk (x, y, z) = (inR x 0 99 && inR y 0 10000000 && inR z y 10000000) from rfl)
  go_enter Tryz.func53, Tryz.ntmps53
  go_wp2_with fail
  cases h1 : inR x 0 99
  · have H1 := hide h1
    clear h1
    refine (inRange_c H1.out _).mono ?_
    rintro e w1 ⟨rfl, rfl⟩
    go_wp2_with fail
    go_ret
    exact ⟨ret_b (by rw [HPK.out, H1.out]; rfl), hbA⟩
  have H1 := hide h1
  clear h1
  refine (inRange_c H1.out _).mono ?_
  rintro e w1 ⟨rfl, rfl⟩
  go_wp2_with fail
  cases h2 : inR y 0 10000000
  · have H2 := hide h2
    clear h2
    refine (inRange_c H2.out _).mono ?_
    rintro e w1 ⟨rfl, rfl⟩
    go_wp2_with fail
    go_ret
    exact ⟨ret_b (by rw [HPK.out, H1.out, H2.out]; rfl), hbA⟩
  have H2 := hide h2
  clear h2
  refine (inRange_c H2.out _).mono ?_
  rintro e w1 ⟨rfl, rfl⟩
  go_wp2_with fail
  refine (inRange_any _ _ _ _).mono ?_
  rintro e w1 ⟨rfl, rfl⟩
  generalize hg : inR z y 10000000 = g
  have HG := hide hg
  clear hg
  go_wp2_with fail
  go_ret
  exact ⟨ret_b (by rw [HPK.out, H1.out, H2.out, HG.out]; rfl), hbA⟩

theorem implPartsOk_any (a : Option Addr) (ps : List Prt) (cap : Nat) (w : World) (hn : ps.length ≤ 1048576) (hp : PartsAt w a ps) :
    Calls Tryz.prog 39 #[.slice a ps.length cap] w fun e w' => e = .returned (.bool (partsOkP ps)) ∧ Below w.heap.size w w' := by
  have HP := hide hp
  clear hp
  generalize hRes : partsOkP ps = Res
  have HRES := hide hRes
  clear hRes
  by_cases hlen : (10000 : Int) < (ps.length : Int)
  · have HF := hide (show partsOkP ps = false by
      have : decide (ps.length ≤ 10000) = false := by rw [decide_eq_false_iff_not]; omega
      simp [partsOkP, this])
    go_enter Tryz.func39, Tryz.ntmps39
    go_wp2_with fail
    go_ret
    exact ⟨ret_b (by rw [← HRES.out, HF.out]), Below.refl _ _⟩
  have hld : decide ((10000 : Int) < (ps.length : Int)) = false := by rw [decide_eq_false_iff_not]; exact hlen
  have HL := hide (show decide (ps.length ≤ 10000) = true by rw [decide_eq_true_eq]; omega)
  clear hlen
  go_enter Tryz.func39, Tryz.ntmps39
  go_wp2_with fail
  go_loopw [4, 10] (fun _ i wr => ∃ (k : Nat), k ≤ ps.length ∧ i = .int .i64 k ∧ Hid (∀ u (hu : u < ps.length), u < k → partOk ps[u] = true) ∧ Below w.heap.size w wr) (fun _ i _ => ps.length - (intOf i).toNat)
  case atStart => exact ⟨0, Nat.zero_le _, rfl, fun u hu h => by omega, Below.refl _ _⟩
  case round =>
    obtain ⟨k, hk, rfl, HA, hb⟩ := hrel
    by_cases hlt : k < ps.length
    · obtain ⟨b, off, rfl, c0, c1, c2⟩ := (PartsAt.later HP.out hb) k hlt
      have hblt := cell_lt c0
      have HBAD := hide (fun (h : partOk ps[k] = false) => show partsOkP ps = false by
        have : ps.all partOk = false := by
          rw [List.all_eq_false]
          exact ⟨ps[k], List.getElem_mem hlt, by rw [h]; simp⟩
        simp [partsOkP, this])
      have hbA := hb.alloc hb.size (.cells #[.int .i64 ps[k].1, .int .i64 ps[k].2.1, .int .i64 ps[k].2.2] 87)
      go_wp2_with fail
      refine (implPartOk_any _ _ _ _).mono ?_
      rintro e w1 ⟨rfl, hb1⟩
      have hb2 := hbA.trans (hb1.mono hbA.size)
      cases hpk : partOk (ps[k].1, ps[k].2.1, ps[k].2.2)
      · have HPK := hide hpk
        clear hpk
        go_wp2_with fail
        go_ret
        exact ⟨ret_b (by rw [← HRES.out, HBAD.out HPK.out]), hb2⟩
      · have HPK := hide hpk
        clear hpk
        go_wp2_with fail
        refine ⟨⟨k + 1, by omega, by go_num, ?_, hb2⟩, by simp [intOf]; omega⟩
        intro u hu hlt'
        by_cases e : u = k
        · subst e; exact HPK.out
        · exact HA.out u hu (by omega)
    · have HG := hide (show partsOkP ps = true by
        have : ps.all partOk = true := by
          rw [List.all_eq_true]
          intro x hx
          obtain ⟨u, hu, rfl⟩ := List.getElem_of_mem hx
          exact HA.out u hu (by omega)
        rw [partsOkP, this, HL.out]; rfl)
      go_wp2_with fail
      go_ret
      exact ⟨ret_b (by rw [← HRES.out, HG.out]), hb⟩

theorem implPartsLen_any (a : Option Addr) (ps : List Prt) (cap : Nat) (w : World) (hn : ps.length ≤ 1048576) (hp : PartsAt w a ps) :
    Calls Tryz.prog 13 #[.slice a ps.length cap] w fun e w' => e = .returned (.int .i64 (partsLenP ps)) ∧ Below w.heap.size w w' := by
  have HP := hide hp
  clear hp
  go_enter Tryz.func13, Tryz.ntmps13
  go_wp2_with fail
  refine (implPartsOk_any a ps cap w hn HP.out).mono ?_
  rintro e w1 ⟨rfl, hb1⟩
  cases hok : partsOkP ps
  · have HR := hide (show partsLenP ps = -1 by simp [partsLenP, hok])
    clear hok
    go_wp2_with fail
    go_ret
    exact ⟨ret_i HR.out.symm, hb1⟩
  have HOK := hide hok
  have HR := hide (show partsLenP ps = lenSum ps by simp [partsLenP, hok])
  have hlen : ps.length ≤ 10000 := by simp only [partsOkP, Bool.and_eq_true, decide_eq_true_eq] at hok; exact hok.2
  clear hok
  go_wp2_with fail
  go_loopw [3, 5, 11] (fun s _ i wr => ∃ (k : Nat), k ≤ ps.length ∧ i = .int .i64 k ∧ s = .int .i64 (lenSum (ps.take k)) ∧ Below w.heap.size w wr) (fun _ _ i _ => ps.length - (intOf i).toNat)
  case atStart => exact ⟨0, Nat.zero_le _, rfl, rfl, hb1⟩
  case round =>
    obtain ⟨k, hk, rfl, rfl, hb⟩ := hrel
    by_cases hlt : k < ps.length
    · obtain ⟨b, off, rfl, c0, c1, c2⟩ := (PartsAt.later HP.out hb) k hlt
      have hblt := cell_lt c0
      have hpb := part_bounds (ok_at HOK.out k hlt)
      have hsb := lenSum_bound HOK.out k hk
      have HSU := hide (lenSum_succ ps k hlt)
      generalize lenSum (ps.take k) = sm at HSU hsb ⊢
      have hbA := hb.alloc hb.size (.cells #[.int .i64 ps[k].1, .int .i64 ps[k].2.1, .int .i64 ps[k].2.2] 87)
      go_wp2_with fail
      refine ⟨⟨k + 1, by omega, by go_num, ?_, hbA⟩, by simp [intOf]; omega⟩
      rw [HSU.out]
    · go_wp2_with fail
      go_ret
      refine ⟨ret_i ?_, hb⟩
      rw [HR.out, List.take_of_length_le (by omega)]
end Go.Proofs.YtldafgbhjpfboaaGreat

/- impl.Stretch. Own work. -/
namespace Go.Proofs.YtldafgbhjpfboaaGreat
open Go.RowKit Go.Sort
set_option maxHeartbeats 8000000
set_option maxRecDepth 20000

theorem spotStep_q (q at' wy : Int) (w : World) (d : Nat) (os : Array Obj) : Calls Tryz.prog 31 #[.agg #[.int .i64 q, .int .i64 at', .int .i64 wy]] (grow (redrawn w d) os) fun e w'' =>
    e = .returned (.agg #[.int .i64 q, .int .i64 wy]) ∧ ∃ p : Regrown, w'' = grow (redrawn w p.d) p.os := Calls.regrown_of (spotStep_any q at' wy _)
abbrev SJ (w w0 wx : World) (v0 v1 : Value) (far : Int) (v2 : Value) (q at' wy : Int) : Prop :=
  (wx.cell? ⟨w.heap.size, 0, none⟩ = some v0 ∧ wx.cell? ⟨w.heap.size, 1, none⟩ = some v1 ∧ wx.cell? ⟨w.heap.size + 1, 1, none⟩ = some (.int .i64 far) ∧ wx.cell? ⟨w.heap.size + 1, 2, none⟩ = some v2 ∧ wx.cell? ⟨w.heap.size + 1 + 1, 0, none⟩ = some (.int .i64 q) ∧ wx.cell? ⟨w.heap.size + 1 + 1, 1, none⟩ = some (.int .i64 at') ∧ wx.cell? ⟨w.heap.size + 1 + 1, 2, none⟩ = some (.int .i64 wy)) ∧ Hid (Below w0.heap.size w0 wx)
theorem keepSJ {w w0 w2 w3 : World} {v0 v1 v2 : Value} {far q at' wy : Int} (hb : Below w2.heap.size w2 w3) (h : SJ w w0 w2 v0 v1 far v2 q at' wy) : SJ w w0 w3 v0 v1 far v2 q at' wy :=
  ⟨⟨cell_later' hb h.1.1, cell_later' hb h.1.2.1, cell_later' hb h.1.2.2.1, cell_later' hb h.1.2.2.2.1, cell_later' hb h.1.2.2.2.2.1, cell_later' hb h.1.2.2.2.2.2.1, cell_later' hb h.1.2.2.2.2.2.2⟩, h.2.out.trans (hb.mono h.2.out.size)⟩

theorem implStretch_any (a a' z zl : Option Addr) (N : Nt) (cap cap' zc zlc : Nat) (ok : Bool) (far : Int) (ss : List (Int × Int)) (nl : Nat) (q at' wy : Int) (w : World) (hwf : Wf3 q at' wy) (hn : N.pcs.length ≤ 1048576) (hs : ∀ p ∈ N.pcs, p.name.size ≤ 1048576) (hl : N.jts.length ≤ 1048576) (hm : ∀ j ∈ N.jts, j.name.size ≤ 1048576 ∧ j.ends.length ≤ 1048576) (hx : ss.length ≤ 1048576) (hp : PcsAt w a N.pcs) (hj : JtsAt w a' N.jts) (hz : EndsAt w z ss) :
    Calls Tryz.prog 10 #[.agg #[.slice a N.pcs.length cap, .slice a' N.jts.length cap'], .agg #[.bool ok, .int .i64 far, .slice z ss.length zc, .slice zl nl zlc], .agg #[.int .i64 q, .int .i64 at', .int .i64 wy]] w fun e w' =>
    ∃ v, e = .returned v ∧ w'.ownsRow w.heap.size 87 3 v (stretchP N ok far ss q at' wy).length (partCells (stretchP N ok far ss q at' wy)) ∧ Below w.heap.size w w' := by
  have HP := hide hp
  have HJ := hide hj
  have HZ := hide hz
  have HM := hide hm
  have HS := hide hs
  have HWF := hide hwf
  have HB0 := hide (sxB_new a a' z zl N cap cap' zc zlc ok far ss nl q at' wy w)
  clear hp hj hz hm hs hwf
  go_enter Tryz.func10, Tryz.ntmps10
  go_upto_region 1 with fail
  generalize ((w.alloc (.cells #[.slice a N.pcs.length cap, .slice a' N.jts.length cap'] 26)).alloc (.cells #[.bool ok, .int .i64 far, .slice z ss.length zc, .slice zl nl zlc] 34)).alloc (.cells #[.int .i64 q, .int .i64 at', .int .i64 wy] 29) = w1 at *
  have n0 := HB0.out.n0
  have n1 := HB0.out.n1
  have p0 := HB0.out.p0
  have s0 := HB0.out.s0
  have s1 := HB0.out.s1
  have s2 := HB0.out.s2
  cases ok
  · have HR := hide (str_not (N := N) (ok := false) (far := far) (ss := ss) (q := q) (a := at') (wy := wy) (fun h => by cases h.1))
    go_wp2_with fail
    go_ret
    rw [HR.out]
    exact ⟨_, rfl, World.ownsRow_nil _ _ _ _, HB0.out.below⟩
  go_wp2_with fail
  refine (implSpotOk_any a a' N cap cap' q at' wy _ HWF.out hn HS.out hl HM.out (HP.out.later HB0.out.below) (HJ.out.later HB0.out.below)).mono ?_
  rintro e w2 ⟨rfl, hb2⟩
  have HB2 := hide (HB0.out.later hb2)
  clear hb2 HB0 n0 n1 p0 s0 s1 s2
  cases h1 : spotOkP N q at' wy
  · have HR := hide (str_not (N := N) (ok := true) (far := far) (ss := ss) (q := q) (a := at') (wy := wy) (fun h => by
      have : spotOkP N q at' wy = true := by unfold spotOkP; rw [h.2.1, h.2.2.1]; rfl
      rw [h1] at this
      cases this))
    clear h1
    go_wp2_with fail
    go_ret
    rw [HR.out]
    exact ⟨_, rfl, World.ownsRow_nil _ _ _ _, HB2.out.below⟩
  obtain ⟨hnet, hspot⟩ : netOk N = (0, 0) ∧ spotP N q at' wy = true := by
    simp only [spotOkP, Bool.and_eq_true, decide_eq_true_eq] at h1
    exact h1
  have HNET := hide hnet
  have HSPOT := hide hspot
  clear h1 hnet hspot
  have p1 := HB2.out.p1
  go_wp2_with fail
  cases h2 : inR far 0 1000000
  · have H2 := hide h2
    have HR := hide (str_not (N := N) (ok := true) (far := far) (ss := ss) (q := q) (a := at') (wy := wy) (fun h => by
      have h' := h.2.2.2.1
      rw [h2] at h'
      cases h'))
    clear h2
    refine (inRange_b H2.out _).mono ?_
    rintro e w3 ⟨rfl, rfl⟩
    go_wp2_with fail
    go_ret
    rw [HR.out]
    exact ⟨_, rfl, World.ownsRow_nil _ _ _ _, HB2.out.below⟩
  have H2 := hide h2
  have hf : 0 ≤ far ∧ far ≤ 1000000 := by simp [inR] at h2; omega
  obtain ⟨hf0, hf1⟩ := hf
  clear h2
  refine (inRange_b H2.out _).mono ?_
  rintro e w3 ⟨rfl, rfl⟩
  clear p1
  go_upto_region 3 with fail
  have HZ2 := hide (HZ.out.later HB2.out.below)
  go_cut [38] (fun c wx => c = .bool (!(decide (¬ ss.length = 0) && decide (ss[0]! = (q, wy)))) ∧ Below w2.heap.size w2 wx)
  case first =>
    have k4 := cell_regrown HB2.out.p2
    have k5 := cell_regrown HB2.out.s0
    have k6 := cell_regrown HB2.out.s1
    have k7 := cell_regrown HB2.out.s2
    by_cases hl0 : ss.length = 0
    · have ql : ((ss.length : Int) == 0) = true := by rw [hl0]; rfl
      have ql2 : (ss.length == 0) = true := by rw [hl0]; rfl
      have HR := hide (show (decide (¬ ss.length = 0) && decide (ss[0]! = (q, wy))) = false by simp [hl0])
      clear hl0
      refine wp_region_quiet_below (by kernel_rfl) (by kernel_rfl) ?_
      repeat (go_big_quiet_step (fail))
      refine wpQuiet_nil ?_
      intro _ hw'
      obtain ⟨⟨dq, osq⟩, hw''⟩ := hw'
      subst hw''
      go_wp2_with fail
      go_meet
      case rel => exact ⟨by rw [HR.out]; rfl, below_regrown w2 dq osq⟩
    have ql : ((ss.length : Int) == 0) = false := by rw [beq_eq_false_iff_ne]; omega
    have ql2 : (ss.length == 0) = false := by rw [beq_eq_false_iff_ne]; omega
    have HL0 := hide (show decide (¬ ss.length = 0) = true from decide_eq_true hl0)
    have hlp : 0 < ss.length := by omega
    have hlpi : (0 : Int) < (ss.length : Int) := by omega
    clear hl0
    obtain ⟨sb, so, rfl, c0, c1⟩ := HZ2.out 0 hlp
    simp only [Nat.zero_mul, Nat.add_zero] at c0 c1
    have k8 := cell_regrown c0
    have k9 := cell_regrown c1
    have HG0 := hide (show ss[0]! = ss[0] by simp [hlp])
    generalize hs0 : ss[0] = s at *
    obtain ⟨s1, s2⟩ := s
    dsimp only at *
    clear c0 c1 hs0
    by_cases hq1 : s1 = q
    · subst hq1
      by_cases hq2 : s2 = wy
      · subst hq2
        have HR := hide (show (decide (¬ ss.length = 0) && decide (ss[0]! = (s1, s2))) = true by rw [HL0.out, HG0.out]; simp)
        refine wp_region_quiet_below (by kernel_rfl) (by kernel_rfl) ?_
        repeat (go_big_quiet_step (first | with_reducible exact spotStep_q _ _ _ _ _ _))
        refine wpQuiet_nil ?_
        intro _ hw'
        obtain ⟨⟨dq, osq⟩, hw''⟩ := hw'
        subst hw''
        go_wp2_with fail
        go_meet
        case rel => exact ⟨by rw [HR.out]; rfl, below_regrown w2 dq osq⟩
      have qn : (s2 == wy) = false := by rw [beq_eq_false_iff_ne]; exact hq2
      have HR := hide (show (decide (¬ ss.length = 0) && decide (ss[0]! = (s1, wy))) = false by
        have : decide (ss[0]! = (s1, wy)) = false := decide_eq_false (by rw [HG0.out]; intro e; exact hq2 (Prod.mk.inj e).2)
        rw [this, Bool.and_false])
      clear hq2
      refine wp_region_quiet_below (by kernel_rfl) (by kernel_rfl) ?_
      repeat (go_big_quiet_step (first | with_reducible exact spotStep_q _ _ _ _ _ _))
      refine wpQuiet_nil ?_
      intro _ hw'
      obtain ⟨⟨dq, osq⟩, hw''⟩ := hw'
      subst hw''
      go_wp2_with fail
      go_meet
      case rel => exact ⟨by rw [HR.out]; rfl, below_regrown w2 dq osq⟩
    have qn : (s1 == q) = false := by rw [beq_eq_false_iff_ne]; exact hq1
    have HR := hide (show (decide (¬ ss.length = 0) && decide (ss[0]! = (q, wy))) = false by
      have : decide (ss[0]! = (q, wy)) = false := decide_eq_false (by rw [HG0.out]; intro e; exact hq1 (Prod.mk.inj e).1)
      rw [this, Bool.and_false])
    clear hq1
    refine wp_region_quiet_below (by kernel_rfl) (by kernel_rfl) ?_
    repeat (go_big_quiet_step (first | with_reducible exact spotStep_q _ _ _ _ _ _))
    refine wpQuiet_nil ?_
    intro _ hw'
    obtain ⟨⟨dq, osq⟩, hw''⟩ := hw'
    subst hw''
    go_wp2_with fail
    go_meet
    case rel => exact ⟨by rw [HR.out]; rfl, below_regrown w2 dq osq⟩
  case rest =>
  obtain ⟨hc, hb4⟩ := hcut
  rename World => w4
  have HB4 := hide (HB2.out.later hb4)
  clear hb4 HB2 HZ2
  cases hpre : (decide (¬ ss.length = 0) && decide (ss[0]! = (q, wy)))
  · have HR := hide (str_not (N := N) (ok := true) (far := far) (ss := ss) (q := q) (a := at') (wy := wy) (fun h => by
      rw [decide_eq_true h.2.2.2.2.1, decide_eq_true h.2.2.2.2.2.1] at hpre
      cases hpre))
    rw [hpre, Bool.not_false] at hc
    subst hc
    clear hpre
    go_wp2_with fail
    go_ret
    rw [HR.out]
    exact ⟨_, rfl, World.ownsRow_nil _ _ _ _, HB4.out.below⟩
  rw [hpre, Bool.not_true] at hc
  subst hc
  simp only [Bool.and_eq_true, decide_eq_true_eq] at hpre
  have HPRE := hide hpre
  have n0 := HB4.out.n0
  have n1 := HB4.out.n1
  have p2 := HB4.out.p2
  clear hpre
  go_wp2_with fail
  refine (liesFor_any a a' z N cap cap' zc ss _ hn HS.out hl HM.out hx (HP.out.later HB4.out.below) (HJ.out.later HB4.out.below) (HZ.out.later HB4.out.below)).mono ?_
  rintro e w5 ⟨v, okl, rfl, hR, hb5⟩
  have HB5 := hide (HB4.out.later hb5)
  clear hb5 HB4 n0 n1 p2
  rcases hR with ⟨hq, rfl, rfl⟩ | ⟨out, hq, rfl, _, _⟩
  · have HR := hide (str_not (N := N) (ok := true) (far := far) (ss := ss) (q := q) (a := at') (wy := wy) (fun h => h.2.2.2.2.2.2.2 (by rw [← liesQ_of h.2.1 h.2.2.2.2.2.2.1]; exact hq)))
    clear hq
    go_wp2_with fail
    go_ret
    rw [HR.out]
    exact ⟨_, rfl, World.ownsRow_nil _ _ _ _, HB5.out.below⟩
  have hsp : stepsP N ss = true := by
    cases h : stepsP N ss
    · unfold liesQ at hq
      rw [if_neg (fun h' => by rw [h] at h'; cases h'.2)] at hq
      cases hq
    · rfl
  have HSP := hide hsp
  have HSO := hide (show StrOk N true far ss q at' wy from ⟨rfl, HNET.out, HSPOT.out, H2.out, HPRE.out.1, HPRE.out.2, hsp, by rw [← liesQ_of HNET.out hsp, hq]; simp⟩)
  have HME := hide (fun j (hj : j ∈ N.jts) => (HM.out j hj).2)
  clear hq hsp
  have HW := hide (ends_wf hn (right_facts HNET.out).2.2.1)
  go_upto_region 8 with fail
  have HJ0 : Hid (SJ w w5 w5 (.slice a N.pcs.length cap) (.slice a' N.jts.length cap') far (.slice z ss.length zc) q at' wy) := ⟨⟨HB5.out.n0, HB5.out.n1, HB5.out.p1, HB5.out.p2, HB5.out.s0, HB5.out.s1, HB5.out.s2⟩, Below.refl _ _⟩
  have h5 : Below w5.heap.size w5 w5.drew := (Below.refl _ _).drew
  have hs5 := HB5.out.below.size
  go_region_held3 (fun w' => SJ w w5 w' (.slice a N.pcs.length cap) (.slice a' N.jts.length cap') far (.slice z ss.length zc) q at' wy)
    (first
      | (exact keepSJ h5 HJ0.out)
      | (exact keepSJ (by assumption) (by assumption)))
    (first
      | (go_at_call 21; refine (layoutOf_any a a' N cap cap' _ hl HME.out HW.out (HJ.out.later (HB5.out.below.trans (h5.mono HB5.out.below.size)))).mono ?_; rintro e w6 ⟨m, n, rfl, _, _, hb6⟩)
      | (go_at_call 33; refine (spread_any a a' z N cap cap' zc m far ss q at' wy _ HNET.out HSPOT.out HSP.out hf0 hf1 (HP.out.later (HB5.out.below.trans ((chn h5 hb6).mono HB5.out.below.size))) (HZ.out.later (HB5.out.below.trans ((chn h5 hb6).mono HB5.out.below.size)))).mono ?_; rintro e w7 ⟨v7, rfl, how, hb7⟩))
  rename_i hH
  have HBF := hide (HB5.out.below.trans ((heldB hH).mono HB5.out.below.size))
  have HOW := hide (owns_low how (show w.heap.size ≤ w6.heap.size by have h1 := h5.size; have h2 := hb6.size; omega))
  clear hH how hb6 hb7 HJ0 h5
  by_cases hlf : (strTo N q at' wy far ss ss.length).1 > 0
  · have HR := hide (str_left HSO.out hlf)
    go_wp2_with fail
    go_ret
    rw [HR.out]
    exact ⟨_, rfl, World.ownsRow_nil _ _ _ _, HBF.out⟩
  · have HR := hide (str_all HSO.out hlf)
    go_wp2_with fail
    go_ret
    rw [HR.out]
    exact ⟨_, rfl, HOW.out, HBF.out⟩
end Go.Proofs.YtldafgbhjpfboaaGreat

/- The laws FnExactPartsLen and FnExactTouch: their walks, over whatever impl answers as it should. Own work. -/
import Derived.Test.YtplnppdlabpodaaPtS
import Derived.Test.YtplnppdlabpodaaLhP
namespace Go.Proofs.Ytplnppdlabpodaa
open Go.RowKit
set_option maxHeartbeats 2000000

theorem info_Part : (Try.prog.info? 119).map (fun i => (i.zero, i.size, i.bytes)) = some (some (.agg #[.int .i64 0, .int .i64 0, .int .i64 0]), 3, 24) := by kernel_rfl

theorem toPart_any (p s t : Int) (w : World) :
    Calls Try.prog 94 #[.agg #[.int .i64 p, .int .i64 s, .int .i64 t]] w fun e w' =>
    e = .returned (.agg #[.int .i64 p, .int .i64 s, .int .i64 t]) ∧ Below w.heap.size w w' := by
  go_enter Try.func94, Try.ntmps94
  go_wp2
  exact bodyPost_ret (v := .agg #[.int .i64 p, .int .i64 s, .int .i64 t]) (by simp [results, Try.results94, go_sem]) rfl ⟨rfl, (((Below.refl _ _).alloc (Nat.le_refl _) _).alloc (by simp) _).alloc (by simp; omega) _⟩

theorem toPartS_any (a : Option Addr) (es : List Prt) (cap : Nat) (w : World) (hn : es.length ≤ 1048576) (hp : PartsAt w a es) :
    Calls Try.prog 50 #[.slice a es.length cap] w fun e w' =>
    e = .returned (.slice (some ⟨w.heap.size, 0, none⟩) es.length es.length) ∧ PartsAt w' (some ⟨w.heap.size, 0, none⟩) es ∧ Below w.heap.size w w' := by
  have HP := hide hp
  clear hp
  have hmk := run_make_rows (P := Try.prog) 65 119 _ _ _ Try.underlying65 info_Part es.length (by omega) (by omega)
  go_enter Try.func50, Try.ntmps50
  go_wp2
  go_loopw [4] (fun i wr => ∃ (k : Nat) (f : Nat → Value), k ≤ es.length ∧ i = .int .i64 k ∧ wr.rowIs w.heap.size 119 (es.length * 3) f ∧ (∀ j (_ : j < k) (hj : j < es.length), f (j * 3) = .int .i64 es[j].1 ∧ f (j * 3 + 1) = .int .i64 es[j].2.1 ∧ f (j * 3 + 2) = .int .i64 es[j].2.2) ∧ Below w.heap.size w wr) (fun i _ => es.length - (intOf i).toNat)
  case atStart =>
    obtain ⟨f, hf⟩ := rowIs_made' w #[.int .i64 0, .int .i64 0, .int .i64 0] (es.length * 3) 119
    exact ⟨0, f, Nat.zero_le _, rfl, hf, by intro j hj; omega, (Below.refl _ _).alloc (Nat.le_refl _) _⟩
  case round =>
    obtain ⟨k, f, hk, rfl, hf, hfs, hb⟩ := hrel
    have HF := hide hf
    have HFS := hide hfs
    clear hf hfs hmk
    by_cases hlt : k < es.length
    · obtain ⟨b, off, rfl, c0, c1, c2⟩ := (PartsAt.later HP.out hb) k hlt
      go_wp2_with fail
      refine (toPart_any _ _ _ _).mono ?_
      rintro e w1 ⟨rfl, hb1⟩
      have hb2 := hb.trans (hb1.mono hb.size)
      have hf1 := HF.out.of_block (hb1.block _ HF.out.lt)
      have d0 := hf1.cell (i := k * 3) (by omega)
      have d1 := hf1.cell (i := k * 3 + 1) (by omega)
      have d2 := hf1.cell (i := k * 3 + 2) (by omega)
      have z0 := hf1.frozen (k * 3)
      have z1 := hf1.frozen (k * 3 + 1)
      have z2 := hf1.frozen (k * 3 + 2)
      have HF1 := hide hf1
      clear hf1
      go_wp2_with fail
      go_roundw
      case rel =>
        refine ⟨k + 1, _, by omega, by go_num, ((HF1.out.set _ _).set _ _).set _ _, ?_, ((hb2.setCell (by simp) _).setCell (by simp) _).setCell (by simp) _⟩
        intro j hj hj'
        rcases Nat.lt_succ_iff_lt_or_eq.mp hj with h | h
        · have := HFS.out j h hj'
          refine ⟨?_, ?_, ?_⟩
          · rw [if_neg (by omega), if_neg (by omega), if_neg (by omega)]; exact this.1
          · rw [if_neg (by omega), if_neg (by omega), if_neg (by omega)]; exact this.2.1
          · rw [if_neg (by omega), if_neg (by omega), if_neg (by omega)]; exact this.2.2
        · subst h
          refine ⟨?_, ?_, ?_⟩
          · rw [if_neg (by omega), if_neg (by omega), if_pos rfl]
          · rw [if_neg (by omega), if_pos rfl]
          · rw [if_pos rfl]
      case measure => simp [intOf]; omega
    · go_wp2_with fail
      go_ret
      refine ⟨rfl, ?_, hb⟩
      intro j hj
      have := HFS.out j (by omega) hj
      refine ⟨_, 0, rfl, ?_, ?_, ?_⟩
      · rw [Nat.zero_add, HF.out.cell (by omega), this.1]
      · rw [Nat.zero_add, HF.out.cell (by omega), this.2.1]
      · rw [Nat.zero_add, HF.out.cell (by omega), this.2.2]

theorem szPartS_any (a : Option Addr) (n cap : Nat) (left : Int) (w : World) (hn : n ≤ maxLen) (h0 : 0 ≤ left) (h1 : left ≤ 1048576) :
    Calls Try.prog 48 #[.slice a n cap, .int .i64 left] w fun e w' =>
    ∃ r : Int, e = .returned (.int .i64 r) ∧ -1 ≤ r ∧ r ≤ left ∧ (0 ≤ r → n ≤ 1048576) ∧ Below w.heap.size w w' := by
  unfold maxLen at hn
  go_enter Try.func48, Try.ntmps48
  go_wp2
  all_goals go_ret
  · exact ⟨-1, rfl, by omega, by omega, by omega, Below.refl _ _⟩
  · exact ⟨_, rfl, by omega, by omega, by omega, Below.refl _ _⟩

def WfP (ps : List Prt) : Prop := ∀ p ∈ ps, (Lit.int .i64 p.1).wf = true ∧ (Lit.int .i64 p.2.1).wf = true ∧ (Lit.int .i64 p.2.2).wf = true
/-- impl.PartsLen answers as it should. -/
def PartsLenDone : Prop := ∀ (a : Option Addr) (ps : List Prt) (cap : Nat) (w : World), WfP ps → ps.length ≤ 1048576 → PartsAt w a ps →
    Calls Try.prog 51 #[.slice a ps.length cap] w fun e w' => e = .returned (.int .i64 (partsLenP ps)) ∧ Below w.heap.size w w'
/-- impl.Touch answers as it should. -/
def TouchDone : Prop := ∀ (b o b' o' : Nat) (ps qs : List Prt) (cap cap' : Nat) (w : World), WfP ps → WfP qs → ps.length ≤ 1048576 → qs.length ≤ 1048576 → PartsAt w (some ⟨b, o, none⟩) ps → PartsAt w (some ⟨b', o', none⟩) qs →
    Calls Try.prog 53 #[.slice (some ⟨b, o, none⟩) ps.length cap, .slice (some ⟨b', o', none⟩) qs.length cap'] w fun e w' => e = .returned (.bool (touchP ps qs)) ∧ Below w.heap.size w w'

theorem chnP {a b c : World} (h : Below a.heap.size a b) (k : Below b.heap.size b c) : Below a.heap.size a c := h.trans (k.mono h.size)

theorem fnPartsLen_walk (hdone : PartsLenDone) (a : Option Addr) (ps : List Prt) (cap : Nat) (w : World) (hwf : WfP ps) (hn : ps.length ≤ maxLen) (hp : PartsAt w a ps) :
    Calls Try.prog 11 #[.slice a ps.length cap] w fun e w' => e = .returned (.bool true) ∧ Below w.heap.size w w' := by
  have HD := hide hdone
  have HP := hide hp
  have HWF := hide hwf
  clear hp hdone hwf
  go_enter Try.func11, Try.ntmps11
  go_wp2_with fail
  refine (szPartS_any a ps.length cap 1048576 _ hn (by omega) (by omega)).mono ?_
  rintro e w1 ⟨r, rfl, hr1, hr2, hr3, hb1⟩
  by_cases hr : r < 0
  · go_wp2_with fail
    go_ret
    exact ⟨rfl, hb1⟩
  have hn' := hr3 (by omega)
  have hrr : decide (r < 0) = false := by rw [decide_eq_false_iff_not]; exact hr
  clear hr3
  go_wp2_with fail
  refine (toPartS_any a ps cap _ hn' (HP.out.later hb1)).mono ?_
  rintro e w2 ⟨rfl, hP2, hb2'⟩
  have hb2 := chnP hb1 hb2'
  have HP2 := hide hP2
  clear hP2 hb2'
  go_wp2_with fail
  refine (specPartsLen_any _ ps _ _ hn' HP2.out).mono ?_
  rintro e w3 ⟨rfl, hb3'⟩
  have hb3 := chnP hb2 hb3'
  clear hb3' HP2
  go_wp2_with fail
  refine (toPartS_any a ps cap _ hn' (HP.out.later hb3)).mono ?_
  rintro e w4 ⟨rfl, hP4, hb4'⟩
  have hb4 := chnP hb3 hb4'
  have HP4 := hide hP4
  clear hP4 hb4'
  go_wp2_with fail
  refine (HD.out _ ps _ _ HWF.out hn' HP4.out).mono ?_
  rintro e w5 ⟨rfl, hb5'⟩
  have hb5 := chnP hb4 hb5'
  have HP5 := hide (HP4.out.later hb5')
  clear hb5' HP4
  have hq : (partsLenP ps != partsLenP ps) = false := by simp
  go_wp2_with fail
  refine (toPartS_any a ps cap _ hn' (HP.out.later hb5)).mono ?_
  rintro e w6 ⟨rfl, hP6, hb6'⟩
  have hb6 := chnP hb5 hb6'
  have HP6 := hide hP6
  have HP5' := hide (HP5.out.later hb6')
  clear hP6 hb6' HP5
  go_wp2_with fail
  refine (eqPartS_same _ _ ps _ _ _ hn' HP5'.out HP6.out).mono ?_
  rintro e w7 ⟨rfl, hb7⟩
  have hb := chnP hb6 hb7
  go_wp2_with fail
  go_ret
  exact ⟨rfl, hb⟩
end Go.Proofs.Ytplnppdlabpodaa

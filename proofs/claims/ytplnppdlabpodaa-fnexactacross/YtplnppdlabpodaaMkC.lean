import Derived.Test.YtplnppdlabpodaaMkB
import Derived.Test.YtplnppdlabpodaaMkA
namespace Go.Proofs.Ytplnppdlabpodaa
open Go.RowKit
set_option maxHeartbeats 1000000

theorem markPieceS_any (b n cap : Nat) (k : Int) (w : World) (hn : n ≤ 1048576) (h0 : 0 ≤ k) (h1 : k ≤ 1125899906842624) (hr : Row w b 90 (n * 4)) :
    Calls Try.prog 85 #[.slice (some ⟨b, 0, none⟩) n cap, .int .i64 k] w fun e w' =>
    e = .returned (.int .i64 (k + 4 * n)) ∧ Mid b (b + 1) w w' := by
  have HR := hide hr
  clear hr
  go_enter Try.func85, Try.ntmps85
  go_wp2_with fail
  go_loopw [1, 5] (fun q i wr => ∃ (t : Nat), t ≤ n ∧ i = .int .i64 t ∧ q = .int .i64 (k + 4 * t) ∧ Hid (Row wr b 90 (n * 4)) ∧ Mid b (b + 1) w wr) (fun _ i _ => n - (intOf i).toNat)
  case atStart => exact ⟨0, Nat.zero_le _, rfl, by simp, HR, Mid.refl _ _ _⟩
  case round =>
    obtain ⟨t, ht, rfl, rfl, hrow, hm⟩ := hrel
    by_cases hlt : t < n
    · go_wp2_with fail
      refine (markText_any _ _ (by omega) (by omega)).mono ?_
      rintro e w1 ⟨rfl, hb1⟩
      obtain ⟨f, hf⟩ := hrow.out.later hb1
      have hm1 : Mid b (b + 1) w w1 := hm.trans (Mid.of_below hb1)
      have d0 := hf.cell (i := t * 4) (by omega)
      have d1 := hf.cell (i := t * 4 + 1) (by omega)
      have d2 := hf.cell (i := t * 4 + 2) (by omega)
      have d3 := hf.cell (i := t * 4 + 3) (by omega)
      have z0 := hf.frozen (t * 4)
      have z1 := hf.frozen (t * 4 + 1)
      have z2 := hf.frozen (t * 4 + 2)
      have z3 := hf.frozen (t * 4 + 3)
      have HF := hide hf
      clear hf
      go_wp2_with fail
      go_roundw
      case rel =>
        refine ⟨t + 1, by omega, by go_num, ?_, ⟨_, (((HF.out.set _ _).set _ _).set _ _).set _ _⟩, (((hm1.setCell (Nat.le_refl _) (by omega) _).setCell (Nat.le_refl _) (by omega) _).setCell (Nat.le_refl _) (by omega) _).setCell (Nat.le_refl _) (by omega) _⟩
        congr 1; omega
      case measure => simp [intOf]; omega
    · obtain rfl : t = n := by omega
      go_wp2_with fail
      go_ret
      exact ⟨rfl, hm⟩

/-- The rows of joints that a call has made, what they hold not told but for the lists of ends. -/
def JRows (w : World) (b C : Nat) (js : List Jt) : Prop :=
  Row w b 110 (js.length * 3) ∧ b < C ∧ ∀ k (_ : k < js.length), ∃ b', b < b' ∧ b' < C ∧ w.cell? ⟨b, k * 3 + 2, none⟩ = some (.slice (some ⟨b', 0, none⟩) js[k].ends.length js[k].ends.length) ∧ Row w b' 41 (js[k].ends.length * 2)

theorem JtsOwn.rows {w : World} {b : Nat} {js : List Jt} (h : JtsOwn w b js) : JRows w b w.heap.size js := by
  refine ⟨h.1, by obtain ⟨f, hf⟩ := h.1; exact hf.lt, fun k hk => ?_⟩
  obtain ⟨b', h0, _, _, h3, h4, _⟩ := h.2 k hk
  exact ⟨b', h0, by obtain ⟨f, hf⟩ := h4; exact hf.lt, h3, h4⟩

theorem JRows.later {w w' : World} {b C js} (h : JRows w b C js) (hb : Below w.heap.size w w') : JRows w' b C js := by
  refine ⟨h.1.later hb, h.2.1, fun k hk => ?_⟩
  obtain ⟨b', h0, h1, h2, h3⟩ := h.2.2 k hk
  exact ⟨b', h0, h1, cell_later' hb h2, h3.later hb⟩

theorem JRows.set {w : World} {b C js} (h : JRows w b C js) (o : Nat) (ho : ∀ k, o ≠ k * 3 + 2) (v : Value) : JRows (w.setCell ⟨b, o, none⟩ v) b C js := by
  obtain ⟨⟨f, hf⟩, hC, hk⟩ := h
  refine ⟨⟨_, hf.set o v⟩, hC, fun k hlt => ?_⟩
  obtain ⟨b', h0, h1, h2, h3⟩ := hk k hlt
  refine ⟨b', h0, h1, ?_, h3.setOther (by omega) v⟩
  rw [(hf.set o v).cell (by omega), if_neg (fun h => ho k h.symm)]
  rw [hf.cell (by omega)] at h2
  exact h2

theorem JRows.mid {w w' : World} {b C js} {b0 n0 : Nat} (h : JRows w b C js) (hm : Mid b0 (b0 + 1) w w') (hb : b < b0) (hr : Row w' b0 41 n0) (hr0 : Row w b0 41 n0) : JRows w' b C js := by
  refine ⟨hm.row (by omega) h.1, h.2.1, fun k hk => ?_⟩
  obtain ⟨b', h0, h1, h2, h3⟩ := h.2.2 k hk
  refine ⟨b', h0, h1, hm.cell (by omega) h2, ?_⟩
  by_cases e : b' = b0
  · subst e
    obtain ⟨f, c, hc, hn, _⟩ := h3
    obtain ⟨f0, c0, hc0, hn0, _⟩ := hr0
    rw [hc] at hc0
    have : c = c0 := by simpa using hc0
    subst this
    rw [← hn, hn0]; exact hr
  · exact hm.row (by omega) h3

theorem markJointS_any (b C cap : Nat) (js : List Jt) (k : Int) (w : World) (hn : js.length ≤ 1048576) (hm : ∀ j ∈ js, j.ends.length ≤ 1048576) (h0 : 0 ≤ k) (h1 : k ≤ 4294967296) (hr : JRows w b C js) :
    Calls Try.prog 86 #[.slice (some ⟨b, 0, none⟩) js.length cap, .int .i64 k] w fun e w' =>
    ∃ k', e = .returned (.int .i64 k') ∧ (0 ≤ k' ∧ k' ≤ 4402341478400) ∧ Mid b C w w' := by
  have HR := hide hr
  have HM := hide hm
  clear hr hm
  go_enter Try.func86, Try.ntmps86
  go_wp2_with fail
  go_loopw [1, 5] (fun q i wr => ∃ (t : Nat) (k' : Int), t ≤ js.length ∧ i = .int .i64 t ∧ q = .int .i64 k' ∧ 0 ≤ k' ∧ k' ≤ k + t * 4194304 ∧ Hid (JRows wr b C js) ∧ Mid b C w wr) (fun _ i _ => js.length - (intOf i).toNat)
  case atStart => exact ⟨0, k, Nat.zero_le _, rfl, rfl, h0, by omega, HR, Mid.refl _ _ _⟩
  case round =>
    obtain ⟨t, k', ht, rfl, rfl, hk0, hk1, hrow, hmid⟩ := hrel
    by_cases hlt : t < js.length
    · have hme := HM.out _ (List.getElem_mem hlt)
      obtain ⟨f, hf⟩ := hrow.out.1
      have d0 := hf.cell (i := t * 3) (by omega)
      have z0 := hf.frozen (t * 3)
      clear hf
      go_wp2_with fail
      refine (markText_any _ _ (by omega) (by omega)).mono ?_
      rintro e w1 ⟨rfl, hb1⟩
      have hrow1 := hide ((hrow.out.set (t * 3) (fun k => by omega) (.int .i64 k')).later hb1)
      have hmid1 : Mid b C w w1 := (hmid.setCell (Nat.le_refl _) hrow.out.2.1 _).trans (Mid.of_below hb1)
      obtain ⟨f1, hf1⟩ := hrow1.out.1
      have d1 := hf1.cell (i := t * 3 + 1) (by omega)
      have z1 := hf1.frozen (t * 3 + 1)
      clear hf1 hb1
      have hrow2 := hide (hrow1.out.set (t * 3 + 1) (fun k => by omega) (.string (mtext (k' + 1))))
      have hmid2 : Mid b C w (w1.setCell ⟨b, t * 3 + 1, none⟩ (.string (mtext (k' + 1)))) := hmid1.setCell (Nat.le_refl _) hrow1.out.2.1 _
      obtain ⟨b', g0, g1, g2, g3⟩ := hrow2.out.2.2 t hlt
      have HG3 := hide g3
      clear g3
      go_wp2_with fail
      refine (markEndS_some b' _ _ _ _ hme (by omega) (by omega) HG3.out).mono ?_
      rintro e w2 ⟨rfl, hm2, hr2, _⟩
      have hrow3 := hide (hrow2.out.mid hm2 g0 hr2 HG3.out)
      have hmid3 := hmid2.trans (hm2.wide (by omega) (by omega))
      clear hr2 hm2
      go_wp2_with fail
      go_roundw
      case rel => exact ⟨t + 1, _, by omega, by go_num, rfl, by omega, by omega, hrow3, hmid3⟩
      case measure => simp [intOf]; omega
    · go_wp2_with fail
      go_ret
      exact ⟨k', rfl, ⟨hk0, by omega⟩, hmid⟩

theorem markNet_any (B b1 b2 C cap cap' : Nat) (N : Nt) (k : Int) (w : World) (hn : N.pcs.length ≤ 1048576) (hl : N.jts.length ≤ 1048576) (hm : ∀ j ∈ N.jts, j.ends.length ≤ 1048576) (h0 : 0 ≤ k) (h1 : k ≤ 4294967) (hB : B ≤ b1) (h12 : b1 < b2) (hr1 : Row w b1 90 (N.pcs.length * 4)) (hr : JRows w b2 C N.jts) :
    Calls Try.prog 26 #[.agg #[.slice (some ⟨b1, 0, none⟩) N.pcs.length cap, .slice (some ⟨b2, 0, none⟩) N.jts.length cap'], .int .i64 k] w fun e w' =>
    ∃ k', e = .returned (.int .i64 k') ∧ (0 ≤ k' ∧ k' ≤ 4402341478400) ∧ Mid B C w w' := by
  have HR1 := hide hr1
  have HR := hide hr
  have HM := hide hm
  have hC := hr.2.1
  clear hr1 hr hm
  go_enter Try.func26, Try.ntmps26
  go_wp2_with fail
  have hbA : Below w.heap.size w (w.alloc (.cells #[.slice (some ⟨b1, 0, none⟩) N.pcs.length cap, .slice (some ⟨b2, 0, none⟩) N.jts.length cap'] 33)) := (Below.refl _ _).alloc (Nat.le_refl _) _
  have hlt1 : b1 < w.heap.size := by obtain ⟨f, hf⟩ := HR1.out; exact hf.lt
  refine (markPieceS_any b1 _ cap k _ hn h0 (by omega) (HR1.out.later hbA)).mono ?_
  rintro e w1 ⟨rfl, hm1⟩
  have n1 : w1.cell? ⟨w.heap.size, 1, none⟩ = some (.slice (some ⟨b2, 0, none⟩) N.jts.length cap') := hm1.cell (by omega) (new_cell w _ _ 1 _ rfl)
  have hJ1 : JRows w1 b2 C N.jts := by
    have h := HR.out.later hbA
    refine ⟨hm1.row (by omega) h.1, h.2.1, fun k hk => ?_⟩
    obtain ⟨b', g0, g1, g2, g3⟩ := h.2.2 k hk
    exact ⟨b', g0, g1, hm1.cell (by omega) g2, hm1.row (by omega) g3⟩
  have HJ1 := hide hJ1
  have hmid1 : Mid B C w w1 := (Mid.of_below hbA).trans (hm1.wide (by omega) (by omega))
  clear hJ1 hm1
  go_wp2_with fail
  refine (markJointS_any b2 C cap' N.jts _ _ hl HM.out (by omega) (by omega) HJ1.out).mono ?_
  rintro e w2 ⟨k', rfl, hk', hm2⟩
  have hmid2 := hmid1.trans (hm2.wide (by omega) (Nat.le_refl _))
  clear hm2
  go_wp2_with fail
  go_ret
  exact ⟨k', rfl, hk', hmid2⟩
end Go.Proofs.Ytplnppdlabpodaa

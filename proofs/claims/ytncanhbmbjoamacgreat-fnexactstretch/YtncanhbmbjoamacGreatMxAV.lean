/- impl.Stretch. Own work. -/
import Derived.Test.YtncanhbmbjoamacGreatSxI
import Derived.Test.YtncanhbmbjoamacGreatSxS
import Derived.Test.YtncanhbmbjoamacGreatTo
namespace Go.Proofs.YtncanhbmbjoamacGreat
open Go.RowKit Go.Sort
set_option maxHeartbeats 8000000
set_option maxRecDepth 20000

theorem spotStep_q (q at' wy : Int) (w : World) (d : Nat) (os : Array Obj) : Calls Tryz.prog 35 #[.agg #[.int .i64 q, .int .i64 at', .int .i64 wy]] (grow (redrawn w d) os) fun e w'' =>
    e = .returned (.agg #[.int .i64 q, .int .i64 wy]) ∧ ∃ p : Regrown, w'' = grow (redrawn w p.d) p.os := Calls.regrown_of (spotStep_any q at' wy _)
abbrev SJ (w w0 wx : World) (v0 v1 : Value) (far : Int) (v2 : Value) (q at' wy : Int) : Prop :=
  (wx.cell? ⟨w.heap.size, 0, none⟩ = some v0 ∧ wx.cell? ⟨w.heap.size, 1, none⟩ = some v1 ∧ wx.cell? ⟨w.heap.size + 1, 1, none⟩ = some (.int .i64 far) ∧ wx.cell? ⟨w.heap.size + 1, 2, none⟩ = some v2 ∧ wx.cell? ⟨w.heap.size + 1 + 1, 0, none⟩ = some (.int .i64 q) ∧ wx.cell? ⟨w.heap.size + 1 + 1, 1, none⟩ = some (.int .i64 at') ∧ wx.cell? ⟨w.heap.size + 1 + 1, 2, none⟩ = some (.int .i64 wy)) ∧ Hid (Below w0.heap.size w0 wx)
theorem keepSJ {w w0 w2 w3 : World} {v0 v1 v2 : Value} {far q at' wy : Int} (hb : Below w2.heap.size w2 w3) (h : SJ w w0 w2 v0 v1 far v2 q at' wy) : SJ w w0 w3 v0 v1 far v2 q at' wy :=
  ⟨⟨cell_later' hb h.1.1, cell_later' hb h.1.2.1, cell_later' hb h.1.2.2.1, cell_later' hb h.1.2.2.2.1, cell_later' hb h.1.2.2.2.2.1, cell_later' hb h.1.2.2.2.2.2.1, cell_later' hb h.1.2.2.2.2.2.2⟩, h.2.out.trans (hb.mono h.2.out.size)⟩

theorem implStretch_any (a a' z zl : Option Addr) (N : Nt) (cap cap' zc zlc : Nat) (ok : Bool) (far : Int) (ss : List (Int × Int)) (nl : Nat) (q at' wy : Int) (w : World) (hwf : Wf3 q at' wy) (hn : N.pcs.length ≤ 1048576) (hs : ∀ p ∈ N.pcs, p.name.size ≤ 1048576) (hl : N.jts.length ≤ 1048576) (hm : ∀ j ∈ N.jts, j.name.size ≤ 1048576 ∧ j.ends.length ≤ 1048576) (hx : ss.length ≤ 1048576) (hp : PcsAt w a N.pcs) (hj : JtsAt w a' N.jts) (hz : EndsAt w z ss) :
    Calls Tryz.prog 10 #[.agg #[.slice a N.pcs.length cap, .slice a' N.jts.length cap'], .agg #[.bool ok, .int .i64 far, .slice z ss.length zc, .slice zl nl zlc], .agg #[.int .i64 q, .int .i64 at', .int .i64 wy]] w fun e w' =>
    ∃ v, e = .returned v ∧ w'.ownsRow w.heap.size 72 3 v (stretchP N ok far ss q at' wy).length (partCells (stretchP N ok far ss q at' wy)) ∧ Below w.heap.size w w' := by
  have HP := hide hp
  have HJ := hide hj
  have HZ := hide hz
  have HM := hide hm
  have HS := hide hs
  have HWF := hide hwf
  have HB0 := hide (sxB_new a a' z zl N cap cap' zc zlc ok far ss nl q at' wy w)
  clear hp hj hz hm hs hwf
  go_enter Tryz.func10, Tryz.ntmps10
  go_upto_region 1 with fail
  generalize ((w.alloc (.cells #[.slice a N.pcs.length cap, .slice a' N.jts.length cap'] 39)).alloc (.cells #[.bool ok, .int .i64 far, .slice z ss.length zc, .slice zl nl zlc] 44)).alloc (.cells #[.int .i64 q, .int .i64 at', .int .i64 wy] 46) = w1 at *
  have n0 := HB0.out.n0
  have n1 := HB0.out.n1
  have p0 := HB0.out.p0
  have s0 := HB0.out.s0
  have s1 := HB0.out.s1
  have s2 := HB0.out.s2
  cases ok
  · have HR := hide (str_not (N := N) (ok := false) (far := far) (ss := ss) (q := q) (a := at') (wy := wy) (fun h => by cases h.1))
    go_wp2_with fail
    go_ret
    rw [HR.out]
    exact ⟨_, rfl, World.ownsRow_nil _ _ _ _, HB0.out.below⟩
  go_wp2_with fail
  refine (implSpotOk_any a a' N cap cap' q at' wy _ HWF.out hn HS.out hl HM.out (HP.out.later HB0.out.below) (HJ.out.later HB0.out.below)).mono ?_
  rintro e w2 ⟨rfl, hb2⟩
  have HB2 := hide (HB0.out.later hb2)
  clear hb2 HB0 n0 n1 p0 s0 s1 s2
  cases h1 : spotOkP N q at' wy
  · have HR := hide (str_not (N := N) (ok := true) (far := far) (ss := ss) (q := q) (a := at') (wy := wy) (fun h => by
      have : spotOkP N q at' wy = true := by unfold spotOkP; rw [h.2.1, h.2.2.1]; rfl
      rw [h1] at this
      cases this))
    clear h1
    go_wp2_with fail
    go_ret
    rw [HR.out]
    exact ⟨_, rfl, World.ownsRow_nil _ _ _ _, HB2.out.below⟩
  obtain ⟨hnet, hspot⟩ : netOk N = (0, 0) ∧ spotP N q at' wy = true := by
    simp only [spotOkP, Bool.and_eq_true, decide_eq_true_eq] at h1
    exact h1
  have HNET := hide hnet
  have HSPOT := hide hspot
  clear h1 hnet hspot
  have p1 := HB2.out.p1
  go_wp2_with fail
  cases h2 : inR far 0 1000000
  · have H2 := hide h2
    have HR := hide (str_not (N := N) (ok := true) (far := far) (ss := ss) (q := q) (a := at') (wy := wy) (fun h => by
      have h' := h.2.2.2.1
      rw [h2] at h'
      cases h'))
    clear h2
    refine (inRange_b H2.out _).mono ?_
    rintro e w3 ⟨rfl, rfl⟩
    go_wp2_with fail
    go_ret
    rw [HR.out]
    exact ⟨_, rfl, World.ownsRow_nil _ _ _ _, HB2.out.below⟩
  have H2 := hide h2
  have hf : 0 ≤ far ∧ far ≤ 1000000 := by simp [inR] at h2; omega
  obtain ⟨hf0, hf1⟩ := hf
  clear h2
  refine (inRange_b H2.out _).mono ?_
  rintro e w3 ⟨rfl, rfl⟩
  clear p1
  go_upto_region 3 with fail
  have HZ2 := hide (HZ.out.later HB2.out.below)
  go_cut [38] (fun c wx => c = .bool (!(decide (¬ ss.length = 0) && decide (ss[0]! = (q, wy)))) ∧ Below w2.heap.size w2 wx)
  case first =>
    have k4 := cell_regrown HB2.out.p2
    have k5 := cell_regrown HB2.out.s0
    have k6 := cell_regrown HB2.out.s1
    have k7 := cell_regrown HB2.out.s2
    by_cases hl0 : ss.length = 0
    · have ql : ((ss.length : Int) == 0) = true := by rw [hl0]; rfl
      have ql2 : (ss.length == 0) = true := by rw [hl0]; rfl
      have HR := hide (show (decide (¬ ss.length = 0) && decide (ss[0]! = (q, wy))) = false by simp [hl0])
      clear hl0
      refine wp_region_quiet_below (by kernel_rfl) (by kernel_rfl) ?_
      repeat (go_big_quiet_step (fail))
      refine wpQuiet_nil ?_
      intro _ hw'
      obtain ⟨⟨dq, osq⟩, hw''⟩ := hw'
      subst hw''
      go_wp2_with fail
      go_meet
      case rel => exact ⟨by rw [HR.out]; rfl, below_regrown w2 dq osq⟩
    have ql : ((ss.length : Int) == 0) = false := by rw [beq_eq_false_iff_ne]; omega
    have ql2 : (ss.length == 0) = false := by rw [beq_eq_false_iff_ne]; omega
    have HL0 := hide (show decide (¬ ss.length = 0) = true from decide_eq_true hl0)
    have hlp : 0 < ss.length := by omega
    have hlpi : (0 : Int) < (ss.length : Int) := by omega
    clear hl0
    obtain ⟨sb, so, rfl, c0, c1⟩ := HZ2.out 0 hlp
    simp only [Nat.zero_mul, Nat.add_zero] at c0 c1
    have k8 := cell_regrown c0
    have k9 := cell_regrown c1
    have HG0 := hide (show ss[0]! = ss[0] by simp [hlp])
    generalize hs0 : ss[0] = s at *
    obtain ⟨s1, s2⟩ := s
    dsimp only at *
    clear c0 c1 hs0
    by_cases hq1 : s1 = q
    · subst hq1
      by_cases hq2 : s2 = wy
      · subst hq2
        have HR := hide (show (decide (¬ ss.length = 0) && decide (ss[0]! = (s1, s2))) = true by rw [HL0.out, HG0.out]; simp)
        refine wp_region_quiet_below (by kernel_rfl) (by kernel_rfl) ?_
        repeat (go_big_quiet_step (first | with_reducible exact spotStep_q _ _ _ _ _ _))
        refine wpQuiet_nil ?_
        intro _ hw'
        obtain ⟨⟨dq, osq⟩, hw''⟩ := hw'
        subst hw''
        go_wp2_with fail
        go_meet
        case rel => exact ⟨by rw [HR.out]; rfl, below_regrown w2 dq osq⟩
      have qn : (s2 == wy) = false := by rw [beq_eq_false_iff_ne]; exact hq2
      have HR := hide (show (decide (¬ ss.length = 0) && decide (ss[0]! = (s1, wy))) = false by
        have : decide (ss[0]! = (s1, wy)) = false := decide_eq_false (by rw [HG0.out]; intro e; exact hq2 (Prod.mk.inj e).2)
        rw [this, Bool.and_false])
      clear hq2
      refine wp_region_quiet_below (by kernel_rfl) (by kernel_rfl) ?_
      repeat (go_big_quiet_step (first | with_reducible exact spotStep_q _ _ _ _ _ _))
      refine wpQuiet_nil ?_
      intro _ hw'
      obtain ⟨⟨dq, osq⟩, hw''⟩ := hw'
      subst hw''
      go_wp2_with fail
      go_meet
      case rel => exact ⟨by rw [HR.out]; rfl, below_regrown w2 dq osq⟩
    have qn : (s1 == q) = false := by rw [beq_eq_false_iff_ne]; exact hq1
    have HR := hide (show (decide (¬ ss.length = 0) && decide (ss[0]! = (q, wy))) = false by
      have : decide (ss[0]! = (q, wy)) = false := decide_eq_false (by rw [HG0.out]; intro e; exact hq1 (Prod.mk.inj e).1)
      rw [this, Bool.and_false])
    clear hq1
    refine wp_region_quiet_below (by kernel_rfl) (by kernel_rfl) ?_
    repeat (go_big_quiet_step (first | with_reducible exact spotStep_q _ _ _ _ _ _))
    refine wpQuiet_nil ?_
    intro _ hw'
    obtain ⟨⟨dq, osq⟩, hw''⟩ := hw'
    subst hw''
    go_wp2_with fail
    go_meet
    case rel => exact ⟨by rw [HR.out]; rfl, below_regrown w2 dq osq⟩
  case rest =>
  obtain ⟨hc, hb4⟩ := hcut
  rename World => w4
  have HB4 := hide (HB2.out.later hb4)
  clear hb4 HB2 HZ2
  cases hpre : (decide (¬ ss.length = 0) && decide (ss[0]! = (q, wy)))
  · have HR := hide (str_not (N := N) (ok := true) (far := far) (ss := ss) (q := q) (a := at') (wy := wy) (fun h => by
      rw [decide_eq_true h.2.2.2.2.1, decide_eq_true h.2.2.2.2.2.1] at hpre
      cases hpre))
    rw [hpre, Bool.not_false] at hc
    subst hc
    clear hpre
    go_wp2_with fail
    go_ret
    rw [HR.out]
    exact ⟨_, rfl, World.ownsRow_nil _ _ _ _, HB4.out.below⟩
  rw [hpre, Bool.not_true] at hc
  subst hc
  simp only [Bool.and_eq_true, decide_eq_true_eq] at hpre
  have HPRE := hide hpre
  have n0 := HB4.out.n0
  have n1 := HB4.out.n1
  have p2 := HB4.out.p2
  clear hpre
  go_wp2_with fail
  refine (liesFor_any a a' z N cap cap' zc ss _ hn HS.out hl HM.out hx (HP.out.later HB4.out.below) (HJ.out.later HB4.out.below) (HZ.out.later HB4.out.below)).mono ?_
  rintro e w5 ⟨v, okl, rfl, hR, hb5⟩
  have HB5 := hide (HB4.out.later hb5)
  clear hb5 HB4 n0 n1 p2
  rcases hR with ⟨hq, rfl, rfl⟩ | ⟨out, hq, rfl, _, _⟩
  · have HR := hide (str_not (N := N) (ok := true) (far := far) (ss := ss) (q := q) (a := at') (wy := wy) (fun h => h.2.2.2.2.2.2.2 (by rw [← liesQ_of h.2.1 h.2.2.2.2.2.2.1]; exact hq)))
    clear hq
    go_wp2_with fail
    go_ret
    rw [HR.out]
    exact ⟨_, rfl, World.ownsRow_nil _ _ _ _, HB5.out.below⟩
  have hsp : stepsP N ss = true := by
    cases h : stepsP N ss
    · unfold liesQ at hq
      rw [if_neg (fun h' => by rw [h] at h'; cases h'.2)] at hq
      cases hq
    · rfl
  have HSP := hide hsp
  have HSO := hide (show StrOk N true far ss q at' wy from ⟨rfl, HNET.out, HSPOT.out, H2.out, HPRE.out.1, HPRE.out.2, hsp, by rw [← liesQ_of HNET.out hsp, hq]; simp⟩)
  have HME := hide (fun j (hj : j ∈ N.jts) => (HM.out j hj).2)
  clear hq hsp
  have HW := hide (ends_wf hn (right_facts HNET.out).2.2.1)
  go_upto_region 8 with fail
  have HJ0 : Hid (SJ w w5 w5 (.slice a N.pcs.length cap) (.slice a' N.jts.length cap') far (.slice z ss.length zc) q at' wy) := ⟨⟨HB5.out.n0, HB5.out.n1, HB5.out.p1, HB5.out.p2, HB5.out.s0, HB5.out.s1, HB5.out.s2⟩, Below.refl _ _⟩
  have h5 : Below w5.heap.size w5 w5.drew := (Below.refl _ _).drew
  have hs5 := HB5.out.below.size
  go_region_held3 (fun w' => SJ w w5 w' (.slice a N.pcs.length cap) (.slice a' N.jts.length cap') far (.slice z ss.length zc) q at' wy)
    (first
      | (exact keepSJ h5 HJ0.out)
      | (exact keepSJ (by assumption) (by assumption)))
    (first
      | (go_at_call 37; refine (layoutOf_any a a' N cap cap' _ hl HME.out HW.out (HJ.out.later (HB5.out.below.trans (h5.mono HB5.out.below.size)))).mono ?_; rintro e w6 ⟨m, n, rfl, _, _, hb6⟩)
      | (go_at_call 38; refine (spread_any a a' z N cap cap' zc m far ss q at' wy _ HNET.out HSPOT.out HSP.out hf0 hf1 (HP.out.later (HB5.out.below.trans ((chn h5 hb6).mono HB5.out.below.size))) (HZ.out.later (HB5.out.below.trans ((chn h5 hb6).mono HB5.out.below.size)))).mono ?_; rintro e w7 ⟨v7, rfl, how, hb7⟩))
  rename_i hH
  have HBF := hide (HB5.out.below.trans ((heldB hH).mono HB5.out.below.size))
  have HOW := hide (owns_low how (show w.heap.size ≤ w6.heap.size by have h1 := h5.size; have h2 := hb6.size; omega))
  clear hH how hb6 hb7 HJ0 h5
  by_cases hlf : (strTo N q at' wy far ss ss.length).1 > 0
  · have HR := hide (str_left HSO.out hlf)
    go_wp2_with fail
    go_ret
    rw [HR.out]
    exact ⟨_, rfl, World.ownsRow_nil _ _ _ _, HBF.out⟩
  · have HR := hide (str_all HSO.out hlf)
    go_wp2_with fail
    go_ret
    rw [HR.out]
    exact ⟨_, rfl, HOW.out, HBF.out⟩
end Go.Proofs.YtncanhbmbjoamacGreat

namespace Go.Proofs.YtncanhbmbjoamacGreat
open Go.RowKit
set_option maxHeartbeats 1000000

/-- Of the blocks that were there only some from B to below C have turned. -/
structure Mid (B C : Nat) (w w' : World) : Prop where
  os : w'.os = w.os
  tape : w'.tape = w.tape
  output : w'.output = w.output
  size : w.heap.size ≤ w'.heap.size
  block : ∀ k, k < w.heap.size → (k < B ∨ C ≤ k) → w'.heap[k]? = w.heap[k]?

theorem Mid.refl (B C : Nat) (w : World) : Mid B C w w := ⟨rfl, rfl, rfl, Nat.le_refl _, fun _ _ _ => rfl⟩
theorem Mid.trans {B C : Nat} {a b c : World} (h : Mid B C a b) (k : Mid B C b c) : Mid B C a c :=
  ⟨k.os.trans h.os, k.tape.trans h.tape, k.output.trans h.output, Nat.le_trans h.size k.size, fun i hi hc => (k.block i (Nat.lt_of_lt_of_le hi h.size) hc).trans (h.block i hi hc)⟩
theorem Mid.wide {B C B' C' : Nat} {w w' : World} (h : Mid B C w w') (hB : B' ≤ B) (hC : C ≤ C') : Mid B' C' w w' :=
  ⟨h.os, h.tape, h.output, h.size, fun k hk hc => h.block k hk (by omega)⟩
theorem Mid.of_below {B C : Nat} {w w' : World} (h : Below w.heap.size w w') : Mid B C w w' := ⟨h.os, h.tape, h.output, h.size, fun k hk _ => h.block k hk⟩
theorem Mid.setCell {B C : Nat} {a w : World} (h : Mid B C a w) {b o : Nat} (hB : B ≤ b) (hC : b < C) (u : Value) : Mid B C a (w.setCell ⟨b, o, none⟩ u) :=
  h.trans ⟨rfl, rfl, rfl, by simp [World.setCell], fun k _ hc => Below.heap_setCell _ _ _ _ (by show k ≠ b; omega)⟩
theorem Mid.below {B C : Nat} {w w' : World} (h : Mid B C w w') (hB : B ≤ w.heap.size) : Below B w w' := ⟨h.os, h.tape, h.output, h.size, fun k hk => h.block k (by omega) (by omega)⟩
theorem Mid.cell {B C : Nat} {w w' : World} (h : Mid B C w w') {b o : Nat} {v : Value} (hb : b < B ∨ C ≤ b) (hc : w.cell? ⟨b, o, none⟩ = some v) : w'.cell? ⟨b, o, none⟩ = some v := by
  rw [World.cell?_of_block (w := w) (w' := w') (a := ⟨b, o, none⟩) (h.block b (cell_lt hc) hb)]; exact hc
theorem Mid.row {B C : Nat} {w w' : World} (h : Mid B C w w') {b n : Nat} {t : TypeId} (hb : b < B ∨ C ≤ b) (hr : Row w b t n) : Row w' b t n := by
  obtain ⟨f, hf⟩ := hr
  exact ⟨f, hf.of_block (h.block b hf.lt hb)⟩

/-- A list of ends that a call has made, or none. -/
def OwnEnds (w : World) (a : Option Addr) (n : Nat) : Prop := n = 0 ∨ ∃ b, a = some ⟨b, 0, none⟩ ∧ Row w b 67 (n * 2)
def Marked (w : World) (a : Option Addr) (n : Nat) (k : Int) : Prop := ∀ i, i < n → ∃ b, a = some ⟨b, 0, none⟩ ∧ w.cell? ⟨b, i * 2, none⟩ = some (.int .i64 (k + 2 * i)) ∧ w.cell? ⟨b, i * 2 + 1, none⟩ = some (.int .i64 (k + 2 * i + 1))

theorem markEndS_some (b n cap : Nat) (k : Int) (w : World) (hn : n ≤ 1048576) (h0 : 0 ≤ k) (h1 : k ≤ 1125899906842624) (hr : Row w b 67 (n * 2)) :
    Calls Tryz.prog 69 #[.slice (some ⟨b, 0, none⟩) n cap, .int .i64 k] w fun e w' =>
    e = .returned (.int .i64 (k + 2 * n)) ∧ Mid b (b + 1) w w' ∧ Row w' b 67 (n * 2) ∧ Marked w' (some ⟨b, 0, none⟩) n k := by
  have HR := hide hr
  clear hr
  go_enter Tryz.func69, Tryz.ntmps69
  go_wp2
  go_loopw [1, 5] (fun q i wr => ∃ (t : Nat) (f : Nat → Value), t ≤ n ∧ i = .int .i64 t ∧ q = .int .i64 (k + 2 * t) ∧ Hid (wr.rowIs b 67 (n * 2) f) ∧ Hid (∀ j, j < t → f (j * 2) = .int .i64 (k + 2 * j) ∧ f (j * 2 + 1) = .int .i64 (k + 2 * j + 1)) ∧ Mid b (b + 1) w wr) (fun _ i _ => n - (intOf i).toNat)
  case atStart =>
    obtain ⟨f, hf⟩ := HR.out
    exact ⟨0, f, Nat.zero_le _, rfl, by simp, hf, (fun j hj => by omega), Mid.refl _ _ _⟩
  case round =>
    obtain ⟨t, f, ht, rfl, rfl, hf, hfs, hm⟩ := hrel
    by_cases hlt : t < n
    · have d0 := hf.out.cell (i := t * 2) (by omega)
      have d1 := hf.out.cell (i := t * 2 + 1) (by omega)
      have z0 := hf.out.frozen (t * 2)
      have z1 := hf.out.frozen (t * 2 + 1)
      go_wp2
      go_roundw
      case rel =>
        refine ⟨t + 1, _, by omega, by go_num, ?_, (hf.out.set _ _).set _ _, ?_, (hm.setCell (Nat.le_refl _) (by omega) _).setCell (Nat.le_refl _) (by omega) _⟩
        · congr 1; omega
        · intro j hj
          by_cases e : j = t
          · subst e
            constructor
            · rw [if_neg (by omega), if_pos rfl]
            · rw [if_pos rfl]
          · have := hfs.out j (by omega)
            constructor
            · rw [if_neg (by omega), if_neg (by omega)]; exact this.1
            · rw [if_neg (by omega), if_neg (by omega)]; exact this.2
      case measure => simp [intOf]; omega
    · obtain rfl : t = n := by omega
      go_wp2
      go_ret
      refine ⟨rfl, hm, ⟨f, hf.out⟩, ?_⟩
      intro i hi
      have := hfs.out i hi
      exact ⟨b, rfl, by rw [hf.out.cell (by omega), this.1], by rw [hf.out.cell (by omega), this.2]⟩

theorem markEndS_none (a : Option Addr) (cap : Nat) (k : Int) (w : World) :
    Calls Tryz.prog 69 #[.slice a 0 cap, .int .i64 k] w fun e w' => e = .returned (.int .i64 k) ∧ w = w' := by
  go_enter Tryz.func69, Tryz.ntmps69
  go_wp2
  go_loop [1, 5] (fun q i => q = .int .i64 k ∧ i = .int .i64 0) (fun _ i => 0)
  case atStart => exact ⟨rfl, rfl⟩
  case round =>
    obtain ⟨rfl, rfl⟩ := hrel
    go_wp2
    go_ret
    exact ⟨rfl, rfl⟩
end Go.Proofs.YtncanhbmbjoamacGreat

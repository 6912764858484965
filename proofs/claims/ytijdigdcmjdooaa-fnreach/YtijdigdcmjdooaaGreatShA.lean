/- (layout).trailTo. Own work. -/
import Derived.Test.YtijdigdcmjdooaaGreatTrA
import Derived.Test.YtijdigdcmjdooaaGreatMxBI
import Derived.Test.YtijdigdcmjdooaaGreatMxBJ
import Derived.Deep.RegionHeld3
namespace Go.Proofs.YtijdigdcmjdooaaGreat
open Go.RowKit Go.Sort
set_option maxHeartbeats 8000000
set_option maxRecDepth 100000

/-- What is read of three boxes. -/
abbrev SA (W wx : World) (bL bA bB : Nat) (v0 v1 v2 : Value) (q a wy q' a' wy' : Int) : Prop :=
  (wx.cell? ⟨bL, 0, none⟩ = some v0 ∧ wx.cell? ⟨bL, 1, none⟩ = some v1 ∧ wx.cell? ⟨bL, 2, none⟩ = some v2 ∧ wx.cell? ⟨bA, 0, none⟩ = some (.int .i64 q) ∧ wx.cell? ⟨bA, 1, none⟩ = some (.int .i64 a) ∧ wx.cell? ⟨bA, 2, none⟩ = some (.int .i64 wy) ∧ wx.cell? ⟨bB, 0, none⟩ = some (.int .i64 q') ∧ wx.cell? ⟨bB, 1, none⟩ = some (.int .i64 a') ∧ wx.cell? ⟨bB, 2, none⟩ = some (.int .i64 wy')) ∧ Hid (Below W.heap.size W wx)
section
variable {W w2 w3 : World} {bL bA bB : Nat} {v0 v1 v2 : Value} {q a wy q' a' wy' : Int}
theorem heldA (h : SA W w2 bL bA bB v0 v1 v2 q a wy q' a' wy') : Below W.heap.size W w2 := h.2.out
theorem keepA (hb : Below w2.heap.size w2 w3) (h : SA W w2 bL bA bB v0 v1 v2 q a wy q' a' wy') : SA W w3 bL bA bB v0 v1 v2 q a wy q' a' wy' := by
  obtain ⟨⟨h0, h1, h2, h3, h4, h5, h6, h7, h8⟩, hw⟩ := h
  exact ⟨⟨cell_later' hb h0, cell_later' hb h1, cell_later' hb h2, cell_later' hb h3, cell_later' hb h4, cell_later' hb h5, cell_later' hb h6, cell_later' hb h7, cell_later' hb h8⟩, hw.out.trans (hb.mono hw.out.size)⟩
theorem rebaseA (h : SA W w2 bL bA bB v0 v1 v2 q a wy q' a' wy') : SA w2 w2 bL bA bB v0 v1 v2 q a wy q' a' wy' := ⟨h.1, Below.refl _ _⟩
theorem putA {b : Nat} (hb : W.heap.size ≤ b) (hL : bL < W.heap.size) (hA : bA < W.heap.size) (hB : bB < W.heap.size) (h : SA W w2 bL bA bB v0 v1 v2 q a wy q' a' wy') (x0 x1 : Value) : SA W ((w2.setCell ⟨b, 0, none⟩ x0).setCell ⟨b, 1, none⟩ x1) bL bA bB v0 v1 v2 q a wy q' a' wy' := by
  have hm : Mid b (b + 1) w2 ((w2.setCell ⟨b, 0, none⟩ x0).setCell ⟨b, 1, none⟩ x1) := ((Mid.refl _ _ _).setCell (Nat.le_refl _) (by omega) _).setCell (Nat.le_refl _) (by omega) _
  obtain ⟨⟨h0, h1, h2, h3, h4, h5, h6, h7, h8⟩, hw⟩ := h
  exact ⟨⟨hm.cell (.inl (by omega)) h0, hm.cell (.inl (by omega)) h1, hm.cell (.inl (by omega)) h2, hm.cell (.inl (by omega)) h3, hm.cell (.inl (by omega)) h4, hm.cell (.inl (by omega)) h5, hm.cell (.inl (by omega)) h6, hm.cell (.inl (by omega)) h7, hm.cell (.inl (by omega)) h8⟩, (hw.out.setCell hb _).setCell hb _⟩
end
theorem putA1 {W w2 : World} {bL bA bB : Nat} {v0 v1 v2 : Value} {q a wy q' a' wy' : Int} {b : Nat} (hb : W.heap.size ≤ b) (hL : bL < W.heap.size) (hA : bA < W.heap.size) (hB : bB < W.heap.size) (h : SA W w2 bL bA bB v0 v1 v2 q a wy q' a' wy') (x : Value) : SA W (w2.setCell ⟨b, 0, none⟩ x) bL bA bB v0 v1 v2 q a wy q' a' wy' := by
  have hm : Mid b (b + 1) w2 (w2.setCell ⟨b, 0, none⟩ x) := Mid.set1 _
  obtain ⟨⟨h0, h1, h2, h3, h4, h5, h6, h7, h8⟩, hw⟩ := h
  exact ⟨⟨hm.cell (.inl (by omega)) h0, hm.cell (.inl (by omega)) h1, hm.cell (.inl (by omega)) h2, hm.cell (.inl (by omega)) h3, hm.cell (.inl (by omega)) h4, hm.cell (.inl (by omega)) h5, hm.cell (.inl (by omega)) h6, hm.cell (.inl (by omega)) h7, hm.cell (.inl (by omega)) h8⟩, hw.out.setCell hb _⟩
theorem ZeroT.mid {w w' : World} {b g : Nat} (h : ZeroT w b) (hm : Mid g (g + 1) w w') (hne : b ≠ g) : ZeroT w' b := by
  have hl := cell_lt h.1.1
  have e : w'.heap[b]? = w.heap[b]? := hm.block b hl (by omega)
  obtain ⟨⟨h0, h1⟩, hf, hT⟩ := h
  exact ⟨⟨hm.cell (by omega) h0, hm.cell (by omega) h1⟩, fun o => by rw [World.frozen?_of_block (a := ⟨b, o, none⟩) e]; exact hf o, fun cur fz => by rw [e]; exact hT cur fz⟩
theorem spotStep_q (q a wy : Int) (w : World) (d : Nat) (os : Array Obj) :
    Calls Tryz.prog 67 #[.agg #[.int .i64 q, .int .i64 a, .int .i64 wy]] (grow (redrawn w d) os) fun e w'' => e = .returned (.agg #[.int .i64 q, .int .i64 wy]) ∧ ∃ p : Regrown, w'' = grow (redrawn w p.d) p.os :=
  Calls.regrown_of (spotStep_any q a wy _)
/-- What a lookup finds. -/
def FoundO (o : Option Wy) (wz : World) (far : Int) (z : Option Addr) (n : Nat) (ok : Bool) : Prop :=
  (o = none ∧ ok = false) ∨ ∃ y, o = some y ∧ ok = true ∧ far = y.far ∧ n = y.ss.length ∧ StRow wz z y.ss
theorem FoundO.later {o : Option Wy} {w1 w2 : World} {far : Int} {z : Option Addr} {n : Nat} {ok : Bool} (h : FoundO o w1 far z n ok) (hb : Below w1.heap.size w1 w2) : FoundO o w2 far z n ok := by
  rcases h with h | ⟨y, h1, h2, h3, h4, h5⟩
  · exact .inl h
  · exact .inr ⟨y, h1, h2, h3, h4, h5.later hb⟩
theorem trail_at {mk nk : Nat} {t : Int × Int} {wT : World} {known : Int × Int → Option It} {o : Option Wy} (hK : KM wT mk nk (fun t => (known t).map trOf)) (hw : Wf2 t) (hB : (known t).map It.y = o) (hS : ∀ t i, known t = some i → StRow wT i.z i.y.ss ∧ ∃ b, i.z = some ⟨b, 0, none⟩) :
    ∃ (far : Int) (z : Option Addr) (n c : Nat) (ok : Bool), (∀ w', Below wT.heap.size wT w' → (Instr.lookup 134 (.map (some mk)) (.agg #[.int .i64 t.1, .int .i64 t.2]) true).run Tryz.prog w' = .ok (.tuple #[.agg #[.int .i64 far, .slice z n c], .bool ok]) w') ∧ FoundO o wT far z n ok := by
  cases hk : known t with
  | none =>
    refine ⟨0, none, 0, 0, false, fun w' hb => ?_, .inl ⟨by rw [← hB, hk]; rfl, rfl⟩⟩
    have h := (hK.of_block (hb.block _ hK.lt)).look_ok t.1 t.2 hw
    rw [hk] at h
    exact h
  | some i =>
    obtain ⟨h1, b, h2⟩ := hS t i hk
    refine ⟨i.y.far, i.z, i.y.ss.length, i.c, true, fun w' hb => ?_, .inr ⟨i.y, by rw [← hB, hk]; rfl, rfl, rfl, rfl, h1⟩⟩
    have h := (hK.of_block (hb.block _ hK.lt)).look_ok t.1 t.2 hw
    rw [hk] at h
    simp only [Option.map_some, Option.getD_some, Option.isSome_some, trV_of h2] at h
    exact h
theorem FoundO.put {o : Option Wy} {wT : World} {far : Int} {z : Option Addr} {n b : Nat} {ok : Bool} (h : FoundO o wT far z n ok) (hz : ZeroT wT b) (x y : Value) : FoundO o ((wT.setCell ⟨b, 0, none⟩ x).setCell ⟨b, 1, none⟩ y) far z n ok := by
  rcases h with h | ⟨y', h1, h2, h3, h4, h5⟩
  · exact .inl h
  · have hm : Mid b (b + 1) wT ((wT.setCell ⟨b, 0, none⟩ x).setCell ⟨b, 1, none⟩ y) := ((Mid.refl _ _ _).setCell (Nat.le_refl _) (by omega) _).setCell (Nat.le_refl _) (by omega) _
    exact .inr ⟨y', h1, h2, h3, h4, h5.mid hm hz.2.2⟩
theorem inT_put0 {w : World} {b : Nat} (h : ZeroT w b) (x y : Value) : ((w.setCell ⟨b, 0, none⟩ x).setCell ⟨b, 1, none⟩ y).cell? ⟨b, 0, none⟩ = some x := by
  obtain ⟨⟨h0, h1⟩, hf⟩ := h
  simp [go_sem, h0]
theorem inT_frozen {w : World} {b : Nat} (h : ZeroT w b) (x y : Value) : ((w.setCell ⟨b, 0, none⟩ x).setCell ⟨b, 1, none⟩ y).frozen? ⟨b, 0, none⟩ = false := by
  rw [World.frozen?_setCell, World.frozen?_setCell]
  exact h.2.1 0
theorem ZeroT.type {w : World} {b : Nat} (h : ZeroT w b) (x y : Value) : ∀ cur fz, ((w.setCell ⟨b, 0, none⟩ x).setCell ⟨b, 1, none⟩ y).heap[b]? ≠ some (.cells cur 132 fz) := set_obj (set_obj h.2.2)
theorem new_type (w : World) (far : Int) (z : Option Addr) (n c : Nat) : ∀ cur fz, (w.alloc (.cells #[.int .i64 far, .slice z n c] 101)).heap[w.heap.size]? ≠ some (.cells cur 132 fz) := by
  intro cur fz e
  rw [heap_alloc_new] at e
  simp at e
theorem trailTo_any (a a' : Option Addr) (N : Nt) (cap cap' m n : Nat) (q at1 wy q' at2 wy' : Int) (w : World) (hright : netOk N = (0, 0)) (hs : spotP N q at1 wy = true) (hs' : spotP N q' at2 wy' = true) (hP : PcsAt w a N.pcs) (hJ : JtsAt w a' N.jts) (hSE : SE w m n (seatTo N.jts N.jts.length)) :
    Calls Tryz.prog 42 #[.agg #[.slice a N.pcs.length cap, .slice a' N.jts.length cap', .map (some m)], .agg #[.int .i64 q, .int .i64 at1, .int .i64 wy], .agg #[.int .i64 q', .int .i64 at2, .int .i64 wy']] w fun e w' =>
    ∃ (far : Int) (z : Option Addr) (nn c : Nat) (ok : Bool), e = .returned (.tuple #[.agg #[.int .i64 far, .slice z nn c], .bool ok]) ∧ FoundO (shortP N hright q at1 wy q' at2 wy') w' far z nn ok ∧ Below w.heap.size w w' := by
  have HP := hide hP
  have HJ := hide hJ
  have HSE := hide hSE
  have HR := hide hright
  have HS := hide hs
  have HS' := hide hs'
  have hpl : N.pcs.length ≤ 100 := by
    have a3 := (right_facts hright).1
    simp only [sizeBad, Bool.or_eq_false_iff, decide_eq_false_iff_not] at a3
    omega
  have hwy := spot_way hs
  have hwy' := spot_way hs'
  have hrg : 0 ≤ q ∧ q < N.pcs.length ∧ 0 ≤ at1 ∧ at1 ≤ lenAt N q := by
    have h := hs
    simp only [spotP, inR, Bool.and_eq_true, decide_eq_true_eq] at h
    omega
  have hrg' : 0 ≤ q' ∧ q' < N.pcs.length ∧ 0 ≤ at2 ∧ at2 ≤ lenAt N q' := by
    have h := hs'
    simp only [spotP, inR, Bool.and_eq_true, decide_eq_true_eq] at h
    omega
  have hln := lenAt_pos hright q (by omega) (by omega)
  have hln' := lenAt_pos hright q' (by omega) (by omega)
  have hw1 : IntKind.i64.wrap (at2 - at1) = at2 - at1 := by rw [IntKind.wrap_i64]; omega
  have hw2 : IntKind.i64.wrap ((at2 - at1) * wy) = (at2 - at1) * wy := by
    rcases hwy with rfl | rfl <;> (rw [IntKind.wrap_i64]; omega)
  clear hP hJ hSE hs hs'
  go_enter Tryz.func42, Tryz.ntmps42
  have HS4 : Hid (SA ((((w.alloc (.cells #[.slice a N.pcs.length cap, .slice a' N.jts.length cap', .map (some m)] 70)).alloc (.cells #[.int .i64 q, .int .i64 at1, .int .i64 wy] 29)).alloc (.cells #[.int .i64 q', .int .i64 at2, .int .i64 wy'] 29)).alloc (.cells #[.int .i64 0, .slice none 0 0] 101)) ((((w.alloc (.cells #[.slice a N.pcs.length cap, .slice a' N.jts.length cap', .map (some m)] 70)).alloc (.cells #[.int .i64 q, .int .i64 at1, .int .i64 wy] 29)).alloc (.cells #[.int .i64 q', .int .i64 at2, .int .i64 wy'] 29)).alloc (.cells #[.int .i64 0, .slice none 0 0] 101)) w.heap.size (w.heap.size + 1) (w.heap.size + 1 + 1) (.slice a N.pcs.length cap) (.slice a' N.jts.length cap') (.map (some m)) q at1 wy q' at2 wy') :=
    ⟨⟨by simp [go_sem], by simp [go_sem], by simp [go_sem], by simp [go_sem], by simp [go_sem], by simp [go_sem], by simp [go_sem], by simp [go_sem], by simp [go_sem]⟩, Below.refl _ _⟩
  have HZ4 : Hid (ZeroT ((((w.alloc (.cells #[.slice a N.pcs.length cap, .slice a' N.jts.length cap', .map (some m)] 70)).alloc (.cells #[.int .i64 q, .int .i64 at1, .int .i64 wy] 29)).alloc (.cells #[.int .i64 q', .int .i64 at2, .int .i64 wy'] 29)).alloc (.cells #[.int .i64 0, .slice none 0 0] 101)) (w.heap.size + 1 + 1 + 1)) := by
    show ZeroT _ _
    have h := ZeroT.new (((w.alloc (.cells #[.slice a N.pcs.length cap, .slice a' N.jts.length cap', .map (some m)] 70)).alloc (.cells #[.int .i64 q, .int .i64 at1, .int .i64 wy] 29)).alloc (.cells #[.int .i64 q', .int .i64 at2, .int .i64 wy'] 29))
    simpa only [World.size_alloc] using h
  have HB4 : Hid (Below w.heap.size w ((((w.alloc (.cells #[.slice a N.pcs.length cap, .slice a' N.jts.length cap', .map (some m)] 70)).alloc (.cells #[.int .i64 q, .int .i64 at1, .int .i64 wy] 29)).alloc (.cells #[.int .i64 q', .int .i64 at2, .int .i64 wy'] 29)).alloc (.cells #[.int .i64 0, .slice none 0 0] 101))) := (((((Below.refl _ _).alloc (Nat.le_refl _) _).alloc (by simp) _).alloc (by simp; omega) _).alloc (by simp; omega) _)
  go_upto_region 2 with fail
  generalize ((((w.alloc (.cells #[.slice a N.pcs.length cap, .slice a' N.jts.length cap', .map (some m)] 70)).alloc (.cells #[.int .i64 q, .int .i64 at1, .int .i64 wy] 29)).alloc (.cells #[.int .i64 q', .int .i64 at2, .int .i64 wy'] 29)).alloc (.cells #[.int .i64 0, .slice none 0 0] 101)) = w4 at *
  obtain ⟨own, hown⟩ : ∃ own : Bool, own = decide ((q, wy) = (q', wy') ∧ 0 ≤ (at2 - at1) * wy) := ⟨_, rfl⟩
  have HOWN := hide hown
  have hz4 := cell_lt HZ4.out.1.1
  clear hown
  go_cut [27] from 11 to 59 (fun s27 wx => s27 = .bool own ∧ Hid (Below w4.heap.size w4 wx))
  case first =>
    obtain ⟨⟨l0, l1, l2, a0, a1, a2, b0, b1, b2⟩, _⟩ := HS4.out
    have k0 := cell_regrown a0
    have k1 := cell_regrown a1
    have k2 := cell_regrown a2
    have k3 := cell_regrown b0
    have k4 := cell_regrown b1
    have k5 := cell_regrown b2
    clear l0 l1 l2 a0 a1 a2 b0 b1 b2
    by_cases hq : q = q'
    · by_cases hw : wy = wy'
      · subst hq
        subst hw
        have HO2 := hide (show decide (0 ≤ (at2 - at1) * wy) = own by rw [HOWN.out]; simp)
        refine wp_region_quiet_below (by kernel_rfl) (by kernel_rfl) ?_
        repeat (go_big_quiet_step (first | exact spotStep_q _ _ _ _ _ _))
        refine wpQuiet_nil ?_
        intro _ hw'
        obtain ⟨⟨dq, osq⟩, hw''⟩ := hw'
        subst hw''
        have HBQ := hide (below_regrown w4 dq osq)
        go_wp2_with fail
        go_meet
        case rel => exact ⟨by rw [← HO2.out], HBQ⟩
      · have q1 : (q == q') = true := by rw [beq_iff_eq]; exact hq
        have q2 : (wy == wy') = false := by rw [beq_eq_false_iff_ne]; exact hw
        have HO2 := hide (show false = own by rw [HOWN.out]; simp [hw])
        refine wp_region_quiet_below (by kernel_rfl) (by kernel_rfl) ?_
        repeat (go_big_quiet_step (first | exact spotStep_q _ _ _ _ _ _))
        refine wpQuiet_nil ?_
        intro _ hw'
        obtain ⟨⟨dq, osq⟩, hw''⟩ := hw'
        subst hw''
        have HBQ := hide (below_regrown w4 dq osq)
        go_wp2_with fail
        go_meet
        case rel => exact ⟨by rw [← HO2.out], HBQ⟩
    · have q1 : (q == q') = false := by rw [beq_eq_false_iff_ne]; exact hq
      have HO2 := hide (show false = own by rw [HOWN.out]; simp [hq])
      refine wp_region_quiet_below (by kernel_rfl) (by kernel_rfl) ?_
      repeat (go_big_quiet_step (first | exact spotStep_q _ _ _ _ _ _))
      refine wpQuiet_nil ?_
      intro _ hw'
      obtain ⟨⟨dq, osq⟩, hw''⟩ := hw'
      subst hw''
      have HBQ := hide (below_regrown w4 dq osq)
      go_wp2_with fail
      go_meet
      case rel => exact ⟨by rw [← HO2.out], HBQ⟩
  case rest =>
    obtain ⟨rfl, HBQ⟩ := hcut
    rename World => w5
    have HS5 := hide (rebaseA (keepA HBQ.out HS4.out))
    have HZ5 := hide (HZ4.out.later HBQ.out)
    have HB5 := hide (HB4.out.trans (HBQ.out.mono HB4.out.size))
    have hs5 := HBQ.out.size
    clear HS4 HZ4 HB4 HBQ
    cases own with
    | true =>
      have hc : (q, wy) = (q', wy') ∧ 0 ≤ (at2 - at1) * wy := of_decide_eq_true HOWN.out.symm
      have HSH := hide (show shortP N hright q at1 wy q' at2 wy' = some ⟨(at2 - at1) * wy, [(q, wy)]⟩ by unfold shortP; rw [if_pos hc])
      obtain ⟨⟨l0, l1, l2, a0, a1, a2, b0, b1, b2⟩, _⟩ := HS5.out
      clear hc l0 l1 l2 b0 b1 b2
      go_wp2_with fail
      refine (spotStep_any q at1 wy _).mono ?_
      rintro e w6 ⟨rfl, hb6⟩
      obtain ⟨⟨z0, z1⟩, fz, hT⟩ := HZ5.out.later hb6
      have HFZ := hide fz
      have HTT := hide hT
      have f0 := fz 0
      have f1 := fz 1
      have hz6 := cell_lt z0
      have HB6 := hide (HB5.out.trans (hb6.mono HB5.out.size))
      clear hb6 a0 a1 a2 fz hT
      have hb36 := HB6.out.size
      have e7 : ((w6.setCell ⟨w.heap.size + 1 + 1 + 1, 0, none⟩ (.int .i64 ((at2 - at1) * wy))).setCell ⟨w.heap.size + 1 + 1 + 1, 1, none⟩ (.slice (some ⟨w6.heap.size, 0, none⟩) 1 1)).heap.size = w6.heap.size := by simp [World.setCell]
      have HST := hide (show StRow (((w6.setCell ⟨w.heap.size + 1 + 1 + 1, 0, none⟩ (.int .i64 ((at2 - at1) * wy))).setCell ⟨w.heap.size + 1 + 1 + 1, 1, none⟩ (.slice (some ⟨w6.heap.size, 0, none⟩) 1 1)).alloc (.cells #[.int .i64 q, .int .i64 wy] 132)) (some ⟨w6.heap.size, 0, none⟩) [(q, wy)] from ⟨by
        have h := one_step ((w6.setCell ⟨w.heap.size + 1 + 1 + 1, 0, none⟩ (.int .i64 ((at2 - at1) * wy))).setCell ⟨w.heap.size + 1 + 1 + 1, 1, none⟩ (.slice (some ⟨w6.heap.size, 0, none⟩) 1 1)) q wy
        rw [e7] at h
        exact h, fun b o e => by
        obtain ⟨rfl, rfl⟩ : w6.heap.size = b ∧ 0 = o := by simpa using e
        have h := heap_alloc_new ((w6.setCell ⟨w.heap.size + 1 + 1 + 1, 0, none⟩ (.int .i64 ((at2 - at1) * wy))).setCell ⟨w.heap.size + 1 + 1 + 1, 1, none⟩ (.slice (some ⟨w6.heap.size, 0, none⟩) 1 1)) (.cells #[.int .i64 q, .int .i64 wy] 132)
        rw [e7] at h
        exact ⟨_, _, h⟩⟩)
      have HB7 := hide (show Below w.heap.size w (((w6.setCell ⟨w.heap.size + 1 + 1 + 1, 0, none⟩ (.int .i64 ((at2 - at1) * wy))).setCell ⟨w.heap.size + 1 + 1 + 1, 1, none⟩ (.slice (some ⟨w6.heap.size, 0, none⟩) 1 1)).alloc (.cells #[.int .i64 q, .int .i64 wy] 132)) from
        have h1 : Below w.heap.size w ((w6.setCell ⟨w.heap.size + 1 + 1 + 1, 0, none⟩ (.int .i64 ((at2 - at1) * wy))).setCell ⟨w.heap.size + 1 + 1 + 1, 1, none⟩ (.slice (some ⟨w6.heap.size, 0, none⟩) 1 1)) := (HB6.out.setCell (p := ⟨w.heap.size + 1 + 1 + 1, 0, none⟩) (show w.heap.size ≤ w.heap.size + 1 + 1 + 1 by omega) _).setCell (p := ⟨w.heap.size + 1 + 1 + 1, 1, none⟩) (show w.heap.size ≤ w.heap.size + 1 + 1 + 1 by omega) _
        h1.alloc h1.size _)
      clear e7
      go_wp2_with fail
      exact bodyPost_ret (v := .tuple #[.agg #[.int .i64 ((at2 - at1) * wy), .slice (some ⟨w6.heap.size, 0, none⟩) 1 1], .bool true]) (by simp [results, Tryz.results42, go_sem, z0, z1, hz6]) rfl ⟨_, _, _, _, _, rfl, .inr ⟨_, HSH.out, rfl, rfl, rfl, HST.out⟩, HB7.out⟩
    | false =>
      have hc : ¬ ((q, wy) = (q', wy') ∧ 0 ≤ (at2 - at1) * wy) := of_decide_eq_false HOWN.out.symm
      have HSH := hide (show shortP N hright q at1 wy q' at2 wy' = (bestO (grN N hright) (q, wy) (roomP N q at1 wy) (q', wy')).map fun y => ⟨y.far + (lenAt N q' - roomP N q' at2 wy'), y.ss⟩ by unfold shortP; rw [if_neg hc])
      clear hc
      go_upto_region 4 with fail
      have h5L : w.heap.size < w5.heap.size := by omega
      have h5A : w.heap.size + 1 < w5.heap.size := by omega
      have h5B : w.heap.size + 1 + 1 < w5.heap.size := by omega
      have HWF := hide (show Wf2 (q', wy') by
        have wf : ∀ x : Int, -1000 ≤ x → x ≤ 1000 → (Lit.int .i64 x).wf = true := fun x a b => by
          simp only [Lit.wf, IntKind.min, IntKind.max, IntKind.bits, IntKind.signed, Bool.and_eq_true, decide_eq_true_eq]
          simp
          omega
        exact ⟨wf _ (by omega) (by omega), wf _ (by omega) (by omega)⟩)
      have HK1 := hide (keepA ((Below.refl w5.heap.size w5).drew) HS5.out)
      have HK2 := hide (keepA (((Below.refl w5.heap.size w5).alloc (Nat.le_refl _) (.cells #[.int .i64 0, .slice none 0 0] 101)).drew) HS5.out)
      have HPS := hide (fun wx (h : SA w5 wx w.heap.size (w.heap.size + 1) (w.heap.size + 1 + 1) (.slice a N.pcs.length cap) (.slice a' N.jts.length cap') (.map (some m)) q at1 wy q' at2 wy') => HP.out.later (HB5.out.trans ((heldA h).mono HB5.out.size)))
      have HJS := hide (fun wx (h : SA w5 wx w.heap.size (w.heap.size + 1) (w.heap.size + 1 + 1) (.slice a N.pcs.length cap) (.slice a' N.jts.length cap') (.map (some m)) q at1 wy q' at2 wy') => HJ.out.later (HB5.out.trans ((heldA h).mono HB5.out.size)))
      have HSS := hide (fun wx (h : SA w5 wx w.heap.size (w.heap.size + 1) (w.heap.size + 1 + 1) (.slice a N.pcs.length cap) (.slice a' N.jts.length cap') (.map (some m)) q at1 wy q' at2 wy') => HSE.out.of_block ((HB5.out.trans ((heldA h).mono HB5.out.size)).block m HSE.out.lt))
      go_cut [9, 10] from 11 to 59 (fun s9 s10 wz => ∃ bR far z nn c ok, s9 = .pointer (some ⟨bR, 0, none⟩) ∧ s10 = .bool ok ∧ wz.cell? ⟨bR, 0, none⟩ = some (.int .i64 far) ∧ wz.cell? ⟨bR, 1, none⟩ = some (.slice z nn c) ∧ wz.frozen? ⟨bR, 0, none⟩ = false ∧ w5.heap.size ≤ bR ∧ Hid (∀ cur fz, wz.heap[bR]? ≠ some (.cells cur 132 fz)) ∧ Hid (FoundO (bestO (grN N hright) (q, wy) (roomP N q at1 wy) (q', wy')) wz far z nn ok) ∧ Hid (Below w5.heap.size w5 wz))
      case first =>
        go_region_held3 (fun wx => SA w5 wx w.heap.size (w.heap.size + 1) (w.heap.size + 1 + 1) (.slice a N.pcs.length cap) (.slice a' N.jts.length cap') (.map (some m)) q at1 wy q' at2 wy')
          (first
            | (with_reducible exact HK1.out)
            | (with_reducible exact HK2.out)
            | (with_reducible exact HGU.out)
            | (with_reducible exact HGUa.out)
            | (with_reducible exact HGUf.out)
            | (with_reducible exact HGUp.out)
            | (with_reducible exact HGT.out)
            | (with_reducible exact HGTa.out))
          (first
            | (go_at_call 68; refine (trails_any _ _ N _ _ m n q at1 wy _ HR.out (by omega) HS.out (HPS.out _ (by assumption)) (HJS.out _ (by assumption)) (HSS.out _ (by assumption))).mono ?_; rintro e wT ⟨mk, nk, known, rfl, hKM, _, hKB, hKS, hbT⟩; have HGT : Hid (SA w5 wT w.heap.size (w.heap.size + 1) (w.heap.size + 1 + 1) (.slice a N.pcs.length cap) (.slice a' N.jts.length cap') (.map (some m)) q at1 wy q' at2 wy') := keepA hbT (by assumption); have HGTa := hide (keepA ((Below.refl wT.heap.size wT).alloc (Nat.le_refl _) (.cells #[.int .i64 0, .slice none 0 0] 101)) HGT.out); have sT : w5.heap.size ≤ wT.heap.size := (heldA HGT.out).size; (first | (with_reducible (have hC : Below w5.drew.heap.size w5.drew wT := hbT)) | (have HZT : Hid (ZeroT wT w5.heap.size) := zeroT_of hbT)); obtain ⟨far, z, nn, c, ok, hlk, hFO⟩ := trail_at (t := (q', wy')) hKM HWF.out (hKB (q', wy')) hKS; have HLK := hide hlk; have HFO := hide hFO; clear hlk hFO hKM hKB hKS hbT)
            | (go_at_call 67; refine (spotStep_any _ _ _ _).mono ?_; rintro e wU ⟨rfl, hbU⟩; have HGU : Hid (SA w5 wU w.heap.size (w.heap.size + 1) (w.heap.size + 1 + 1) (.slice a N.pcs.length cap) (.slice a' N.jts.length cap') (.map (some m)) q at1 wy q' at2 wy') := keepA hbU (by assumption); have HGUa := hide (keepA ((Below.refl wU.heap.size wU).alloc (Nat.le_refl _) (.cells #[.int .i64 0, .slice none 0 0] 101)) HGU.out); have HGUf := hide (keepA ((Below.refl wU.heap.size wU).alloc (Nat.le_refl _) (.cells #[.int .i64 far, .slice z nn c] 101)) HGU.out); have sU : w5.heap.size ≤ wU.heap.size := (heldA HGU.out).size; (first | ((with_reducible (have hD : Below wT.heap.size wT wU := hbU)); have HTU := hide hD; (first | (have HZU := hide (HZT.out.later hbU); have HGUp := hide (putA (b := w5.heap.size) (by omega) h5L h5A h5B HGU.out (.int .i64 far) (.slice z nn c)); obtain ⟨⟨a0, a1⟩, fz, _⟩ := HZU.out; have f0 := fz 0; have f1 := fz 1; have hal0 := cell_lt a0; clear fz) | skip)) | (have HZU : Hid (ZeroT wU wT.heap.size) := zeroT_of' hbU; have HTU := hide (((Below.refl wT.heap.size wT).alloc (Nat.le_refl _) (.cells #[.int .i64 0, .slice none 0 0] 101)).trans (hbU.mono (by simp))); have HGUp := hide (putA (b := wT.heap.size) (by omega) h5L h5A h5B HGU.out (.int .i64 far) (.slice z nn c)); obtain ⟨⟨a0, a1⟩, fz, _⟩ := HZU.out; have f0 := fz 0; have f1 := fz 1; have hal0 := cell_lt a0; clear fz)); have hlk1 := HLK.out wU HTU.out; have hlk2 := HLK.out _ (HTU.out.alloc HTU.out.size (.cells #[.int .i64 0, .slice none 0 0] 101)); have HFU := hide (HFO.out.later HTU.out); clear hbU))
        all_goals
          first
            | (have HTR := hide (HZU.out.type (.int .i64 far) (.slice z nn c)); have HFP := hide (HFU.out.put HZU.out (.int .i64 far) (.slice z nn c)); have hcp := inT_put HZU.out (.int .i64 far) (.slice z nn c); have hcp0 := inT_put0 HZU.out (.int .i64 far) (.slice z nn c); have hfz := inT_frozen HZU.out (.int .i64 far) (.slice z nn c); have HBP := hide (HZU.out.below (heldA HGU.out) (by omega) (.int .i64 far) (.slice z nn c)); go_wp2_with fail; go_meet; (case rel => exact ⟨_, far, z, nn, c, ok, rfl, rfl, hcp0, hcp, hfz, by omega, HTR, HFP, HBP⟩))
            | (have hAT := (Below.refl wU.heap.size wU).alloc (Nat.le_refl _) (.cells #[.int .i64 far, .slice z nn c] 101); have HFP := hide (HFU.out.later hAT); have hcp0 := new_cell wU #[.int .i64 far, .slice z nn c] 101 0 (.int .i64 far) rfl; have hcp := new_cell wU #[.int .i64 far, .slice z nn c] 101 1 (.slice z nn c) rfl; have hfz : (wU.alloc (.cells #[.int .i64 far, .slice z nn c] 101)).frozen? ⟨wU.heap.size, 0, none⟩ = false := (by simp [go_sem]); have HTR := hide (new_type wU far z nn c); have HBP := hide ((heldA HGU.out).trans (hAT.mono sU)); go_wp2_with fail; go_meet; (case rel => exact ⟨_, far, z, nn, c, ok, rfl, rfl, hcp0, hcp, hfz, by omega, HTR, HFP, HBP⟩))
      case rest =>
        obtain ⟨bR, far, z, nn, c, ok, rfl, rfl, r0, r1, fr, hbR, HTR, HFO, HB9⟩ := hcut
        rename World => w9
        have HS9 := hide (keepA HB9.out HS5.out)
        have HZ9 := hide (HZ5.out.later HB9.out)
        have HB9' := hide (HB5.out.trans (HB9.out.mono HB5.out.size))
        have hs9 := HB9.out.size
        clear HS5 HZ5 HB9 HK1 HK2 HPS HJS HSS
        cases ok with
        | false =>
          have HN := hide (show shortP N hright q at1 wy q' at2 wy' = none by
            rcases HFO.out with ⟨h, _⟩ | ⟨_, _, h, _⟩
            · rw [HSH.out, h]; rfl
            · cases h)
          obtain ⟨⟨z0, z1⟩, fz, hT⟩ := HZ9.out
          have f0 := fz 0
          have f1 := fz 1
          have hz6 := cell_lt z0
          have HB7 := hide (show Below w.heap.size w ((w9.setCell ⟨w.heap.size + 1 + 1 + 1, 0, none⟩ (.int .i64 0)).setCell ⟨w.heap.size + 1 + 1 + 1, 1, none⟩ (.slice none 0 0)) from (HB9'.out.setCell (p := ⟨w.heap.size + 1 + 1 + 1, 0, none⟩) (show w.heap.size ≤ w.heap.size + 1 + 1 + 1 by omega) _).setCell (p := ⟨w.heap.size + 1 + 1 + 1, 1, none⟩) (show w.heap.size ≤ w.heap.size + 1 + 1 + 1 by omega) _)
          clear fz hT r0 r1 fr
          go_wp2_with fail
          exact bodyPost_ret (v := .tuple #[.agg #[.int .i64 0, .slice none 0 0], .bool false]) (by simp [results, Tryz.results42, go_sem, z0, z1]) rfl ⟨_, _, _, _, _, rfl, .inl ⟨HN.out, rfl⟩, HB7.out⟩
        | true =>
          obtain ⟨y, hy, _, hfy, hny, hSY⟩ : ∃ y, bestO (grN N hright) (q, wy) (roomP N q at1 wy) (q', wy') = some y ∧ true = true ∧ far = y.far ∧ nn = y.ss.length ∧ StRow w9 z y.ss := by
            rcases HFO.out with ⟨_, h⟩ | h
            · cases h
            · exact h
          subst hny
          have HSH2 := hide (show shortP N hright q at1 wy q' at2 wy' = some ⟨far + (lenAt N q' - roomP N q' at2 wy'), y.ss⟩ by rw [HSH.out, hy, hfy]; rfl)
          have hfar : 0 ≤ far ∧ far ≤ 100000000000 := by
            have hrb := room_bd HS.out
            have h1 := (bestO_way hy).way.far_le ⟨hrb.1, by omega⟩
            have h2 := bestO_short hrb.1 hy
            have h3 : (grN N hright).n = N.pcs.length := rfl
            rw [h3] at h2
            omega
          have HSY := hide hSY
          obtain ⟨kq, rfl⟩ := Int.eq_ofNat_of_zero_le hrg'.1
          have hkq : kq < N.pcs.length := by omega
          have HLN := hide (lenAt_nat N kq hkq)
          have hrb' := room_bd HS'.out
          obtain ⟨p2, hEN, hrp, hp2⟩ : ∃ p2, enterP N (headP kq (-wy')) = ((kq : Int), p2, wy') ∧ roomP N kq p2 wy' = lenAt N kq ∧ 0 ≤ p2 ∧ p2 ≤ 10000000 := by
            rcases hwy' with rfl | rfl
            · exact ⟨0, rfl, by simp [roomP], by omega, by omega⟩
            · exact ⟨lenAt N kq, rfl, by simp [roomP], by omega, by omega⟩
          have HEN := hide hEN
          have HSO := hide (spot_step HS'.out)
          have hw3 : IntKind.i64.wrap (lenAt N kq - roomP N kq at2 wy') = lenAt N kq - roomP N kq at2 wy' := by rw [IntKind.wrap_i64]; omega
          have hw4 : IntKind.i64.wrap (far + (lenAt N kq - roomP N kq at2 wy')) = far + (lenAt N kq - roomP N kq at2 wy') := by rw [IntKind.wrap_i64]; omega
          have hlp : 0 ≤ N.pcs[kq].len ∧ N.pcs[kq].len ≤ 10000000 := by rw [← HLN.out]; omega
          have ha2 : 0 ≤ at2 ∧ at2 ≤ 10000000 := by omega
          have HRP := hide hrp
          clear hy hfy hSY HFO HSH hEN hrp
          go_upto_region 7 with fail
          have h9L : w.heap.size < w9.heap.size := by omega
          have h9A : w.heap.size + 1 < w9.heap.size := by omega
          have h9B : w.heap.size + 1 + 1 < w9.heap.size := by omega
          have hRl := cell_lt r0
          have h9 : Below w9.heap.size w9 w9.drew := (Below.refl _ _).drew
          have HK1 := hide (keepA h9 HS9.out)
          have HPS := hide (fun wx (h : SA w5 wx w.heap.size (w.heap.size + 1) (w.heap.size + 1 + 1) (.slice a N.pcs.length cap) (.slice a' N.jts.length cap') (.map (some m)) q at1 wy kq at2 wy') => HP.out.later (HB5.out.trans ((heldA h).mono HB5.out.size)))
          go_cut [9] from 11 to 59 (fun s9 wz => s9 = .pointer (some ⟨bR, 0, none⟩) ∧ wz.cell? ⟨bR, 0, none⟩ = some (.int .i64 (far + (lenAt N kq - roomP N kq at2 wy'))) ∧ wz.cell? ⟨bR, 1, none⟩ = some (.slice z y.ss.length c) ∧ Hid (StRow wz z y.ss) ∧ Hid (ZeroT wz (w.heap.size + 1 + 1 + 1)) ∧ Hid (Below w.heap.size w wz))
          case first =>
            have hHeld : (fun wx => SA w5 wx w.heap.size (w.heap.size + 1) (w.heap.size + 1 + 1) (.slice a N.pcs.length cap) (.slice a' N.jts.length cap') (.map (some m)) q at1 wy kq at2 wy' ∧ wx.cell? ⟨bR, 0, none⟩ = some (.int .i64 far)) w9.drew := ⟨HK1.out, r0⟩
            refine wp_region_K (S := fun wx => SA w5 wx w.heap.size (w.heap.size + 1) (w.heap.size + 1 + 1) (.slice a N.pcs.length cap) (.slice a' N.jts.length cap') (.map (some m)) q at1 wy kq at2 wy' ∧ wx.cell? ⟨bR, 0, none⟩ = some (.int .i64 far)) (k := 14) (by kernel_rfl) ?_
            refine wpAnyK_take (i := 0) (v := ?_) rfl rfl (by kernel_rfl) (by decide) (by kernel_rfl) (by kernel_rfl) (by kernel_rfl) (fun _ _ _ h => h) (Or.inl ⟨by rfl, ?_⟩) hHeld ?_
            rotate_left
            · (intro w hSw; (try dsimp only at hSw); go_simp)
              all_goals with_reducible rfl
            try simp only [Act.put, List.setIfInBounds_toArray]
            refine wpAnyK_take (i := 1) (v := ?_) rfl rfl (by kernel_rfl) (by decide) (by kernel_rfl) (by kernel_rfl) (by kernel_rfl) (fun _ _ _ h => h) (Or.inl ⟨by rfl, ?_⟩) hHeld ?_
            rotate_left
            · (intro w hSw; (try dsimp only at hSw); go_simp)
              all_goals with_reducible rfl
            try simp only [Act.put]
            refine wpAnyK_take (i := 2) (v := ?_) rfl rfl (by kernel_rfl) (by decide) (by kernel_rfl) (by kernel_rfl) (by kernel_rfl) (fun _ _ _ h => h) (Or.inl ⟨by rfl, ?_⟩) hHeld ?_
            rotate_left
            · (intro w hSw; (try dsimp only at hSw); go_simp)
              all_goals with_reducible rfl
            try simp only [Act.put]
            refine wpAnyK_take (i := 3) (v := ?_) rfl rfl (by kernel_rfl) (by decide) (by kernel_rfl) (by kernel_rfl) (by kernel_rfl) (fun _ _ _ h => h) (Or.inl ⟨by rfl, ?_⟩) hHeld ?_
            rotate_left
            · (intro w hSw; (try dsimp only at hSw); go_simp)
              all_goals with_reducible rfl
            try simp only [Act.put]
            refine wpAnyK_take (i := 4) (v := ?_) rfl rfl (by kernel_rfl) (by decide) (by kernel_rfl) (by kernel_rfl) (by kernel_rfl) (fun _ _ _ h => h) (Or.inl ⟨by rfl, ?_⟩) hHeld ?_
            rotate_left
            · (intro w hSw; (try dsimp only at hSw); go_simp)
              all_goals with_reducible rfl
            try simp only [Act.put]
            refine wpAnyK_take (i := 8) (v := ?_) rfl rfl (by kernel_rfl) (by decide) (by kernel_rfl) (by kernel_rfl) (by kernel_rfl) (fun _ _ _ h => h) (Or.inl ⟨by rfl, ?_⟩) hHeld ?_
            rotate_left
            · (intro w hSw; (try dsimp only at hSw); go_simp)
              all_goals with_reducible rfl
            try simp only [Act.put]
            refine wpAnyK_take (i := 9) (v := ?_) rfl rfl (by kernel_rfl) (by decide) (by kernel_rfl) (by kernel_rfl) (by kernel_rfl) (fun _ _ _ h => h) (Or.inl ⟨by rfl, ?_⟩) hHeld ?_
            rotate_left
            · (intro w hSw; (try dsimp only at hSw); go_simp)
              all_goals with_reducible rfl
            try simp only [Act.put]
            refine wpAnyK_one (i := 5) (by kernel_rfl) rfl (fun K hK => ?_)
            go_simp
            go_at_call 67
            refine (spotStep_any _ _ _ _).mono ?_
            rintro e wS ⟨rfl, hbX⟩
            skip
            have HGS : Hid (SA w5 wS w.heap.size (w.heap.size + 1) (w.heap.size + 1 + 1) (.slice a N.pcs.length cap) (.slice a' N.jts.length cap') (.map (some m)) q at1 wy kq at2 wy') := keepA hbX hHeld.1
            have rS := cell_later' hbX hHeld.2
            have HBS := hide (h9.trans hbX)
            try go_simp
            refine hK.out _ _ ⟨HGS.out, rS⟩ (fun hH5 => ?_)
            clear hK K hbX hHeld
            try simp only [Act.put, List.setIfInBounds_toArray]
            refine wpAnyK_one (i := 6) (by kernel_rfl) rfl (fun K hK => ?_)
            go_simp
            go_at_call 69
            refine (layBegin_any _ _ N _ _ m kq wy' kq p2 wy' _ HSO.out HEN.out (HPS.out _ hH5.1)).mono ?_
            rintro e wB ⟨rfl, hbX⟩
            skip
            have HGB : Hid (SA w5 wB w.heap.size (w.heap.size + 1) (w.heap.size + 1 + 1) (.slice a N.pcs.length cap) (.slice a' N.jts.length cap') (.map (some m)) q at1 wy kq at2 wy') := keepA hbX hH5.1
            have rB := cell_later' hbX hH5.2
            have HBB := hide (HBS.out.trans (hbX.mono HBS.out.size))
            try go_simp
            refine hK.out _ _ ⟨HGB.out, rB⟩ (fun hH6 => ?_)
            clear hK K hbX hH5
            try simp only [Act.put, List.setIfInBounds_toArray]
            refine wpAnyK_one (i := 7) (by kernel_rfl) rfl (fun K hK => ?_)
            go_simp
            go_at_call 58
            refine (layAhead_any _ _ N _ _ m kq p2 wy' _ hkq hwy' hlp hp2 (HPS.out _ hH6.1)).mono ?_
            rintro e wC ⟨rfl, hbX⟩
            rw [HRP.out]
            have HGC : Hid (SA w5 wC w.heap.size (w.heap.size + 1) (w.heap.size + 1 + 1) (.slice a N.pcs.length cap) (.slice a' N.jts.length cap') (.map (some m)) q at1 wy kq at2 wy') := keepA hbX hH6.1
            have rC := cell_later' hbX hH6.2
            have HBC := hide (HBB.out.trans (hbX.mono HBB.out.size))
            try go_simp
            refine hK.out _ _ ⟨HGC.out, rC⟩ (fun hH7 => ?_)
            clear hK K hbX hH6
            try simp only [Act.put, List.setIfInBounds_toArray]
            refine wpAnyK_one (i := 10) (by kernel_rfl) rfl (fun K hK => ?_)
            go_simp
            go_at_call 58
            refine (layAhead_any _ _ N _ _ m kq at2 wy' _ hkq hwy' hlp ha2 (HPS.out _ hH7.1)).mono ?_
            rintro e wD ⟨rfl, hbX⟩
            skip
            have HGD : Hid (SA w5 wD w.heap.size (w.heap.size + 1) (w.heap.size + 1 + 1) (.slice a N.pcs.length cap) (.slice a' N.jts.length cap') (.map (some m)) q at1 wy kq at2 wy') := keepA hbX hH7.1
            have rD := cell_later' hbX hH7.2
            have HBD := hide (HBC.out.trans (hbX.mono HBC.out.size))
            try go_simp
            refine hK.out _ _ ⟨HGD.out, rD⟩ (fun hH10 => ?_)
            clear hK K hbX hH7
            try simp only [Act.put, List.setIfInBounds_toArray]
            refine wpAnyK_take (i := 11) (v := ?_) rfl rfl (by kernel_rfl) (by decide) (by kernel_rfl) (by kernel_rfl) (by kernel_rfl) (fun _ _ _ h => h) (Or.inl ⟨by rfl, ?_⟩) hH10 ?_
            rotate_left
            · (intro w hSw; (try dsimp only at hSw); go_simp)
              all_goals with_reducible rfl
            try simp only [Act.put, List.setIfInBounds_toArray]
            refine wpAnyK_take (i := 12) (v := ?_) rfl rfl (by kernel_rfl) (by decide) (by kernel_rfl) (by kernel_rfl) (by kernel_rfl) (fun _ _ _ h => h) (Or.inl ⟨by rfl, ?_⟩) hH10 ?_
            rotate_left
            · (intro w hSw; (try dsimp only at hSw); go_simp)
              all_goals with_reducible rfl
            try simp only [Act.put]
            refine wpAnyK_take (i := 13) (v := ?_) rfl rfl (by kernel_rfl) (by decide) (by kernel_rfl) (by kernel_rfl) (by kernel_rfl) (fun _ _ _ h => h) (Or.inl ⟨by rfl, ?_⟩) hH10 ?_
            rotate_left
            · (intro w hSw; (try dsimp only at hSw); go_simp)
              all_goals with_reducible rfl
            try simp only [Act.put]
            have fD := frozen_later HBD.out r0 fr
            refine wpAnyK_last (by kernel_rfl) rfl (by kernel_rfl) (fun K hK => ?_)
            go_simp
            refine hK.out _ _ ?_
            clear hK K
            all_goals
              have hm : Mid bR (bR + 1) wD (wD.setCell ⟨bR, 0, none⟩ (.int .i64 (far + (lenAt N kq - roomP N kq at2 wy')))) := Mid.set1 _
              have HR0 := hide (World.cell?_setCell_same wD ⟨bR, 0, none⟩ (.int .i64 (far + (lenAt N kq - roomP N kq at2 wy'))) rD)
              have HR1 := hide ((World.cell?_setCell_other wD ⟨bR, 0, none⟩ ⟨bR, 1, none⟩ (.int .i64 (far + (lenAt N kq - roomP N kq at2 wy'))) (by simp)).trans (cell_later' HBD.out r1))
              have HSYD := hide ((HSY.out.later HBD.out).mid hm (fun cur fz => by rw [HBD.out.block bR hRl]; exact HTR.out cur fz))
              have HZD := hide ((HZ9.out.later HBD.out).mid hm (by omega))
              have HBW := hide ((HB9'.out.trans (HBD.out.mono HB9'.out.size)).setCell (p := ⟨bR, 0, none⟩) (show w.heap.size ≤ bR by omega) (.int .i64 (far + (lenAt N kq - roomP N kq at2 wy'))))
              go_wp2_with fail
              go_meet
              case rel => exact ⟨rfl, HR0.out, HR1.out, HSYD, HZD, HBW⟩
          case rest =>
            obtain ⟨rfl, r0', r1', HSY', HZ', HB'⟩ := hcut
            rename World => w10
            obtain ⟨⟨z0, z1⟩, fz, hT⟩ := HZ'.out
            have f0 := fz 0
            have f1 := fz 1
            have hz6 := cell_lt z0
            have hr6 := cell_lt r0'
            have hm : Mid (w.heap.size + 1 + 1 + 1) (w.heap.size + 1 + 1 + 1 + 1) w10 ((w10.setCell ⟨w.heap.size + 1 + 1 + 1, 0, none⟩ (.int .i64 (far + (lenAt N kq - roomP N kq at2 wy')))).setCell ⟨w.heap.size + 1 + 1 + 1, 1, none⟩ (.slice z y.ss.length c)) := ((Mid.refl _ _ _).setCell (Nat.le_refl _) (by omega) _).setCell (Nat.le_refl _) (by omega) _
            have HSF := hide (HSY'.out.mid hm hT)
            have HBF := hide (show Below w.heap.size w ((w10.setCell ⟨w.heap.size + 1 + 1 + 1, 0, none⟩ (.int .i64 (far + (lenAt N kq - roomP N kq at2 wy')))).setCell ⟨w.heap.size + 1 + 1 + 1, 1, none⟩ (.slice z y.ss.length c)) from (HB'.out.setCell (p := ⟨w.heap.size + 1 + 1 + 1, 0, none⟩) (show w.heap.size ≤ w.heap.size + 1 + 1 + 1 by omega) _).setCell (p := ⟨w.heap.size + 1 + 1 + 1, 1, none⟩) (show w.heap.size ≤ w.heap.size + 1 + 1 + 1 by omega) _)
            clear hm fz hT r0 r1 fr
            go_wp2_with fail
            exact bodyPost_ret (v := .tuple #[.agg #[.int .i64 (far + (lenAt N kq - roomP N kq at2 wy')), .slice z y.ss.length c], .bool true]) (by simp [results, Tryz.results42, go_sem, z0, z1]) rfl ⟨far + (lenAt N kq - roomP N kq at2 wy'), z, y.ss.length, c, .inr ⟨rfl, .inr ⟨_, HSH2.out, rfl, rfl, rfl, HSF.out⟩, HBF.out⟩⟩
end Go.Proofs.YtijdigdcmjdooaaGreat

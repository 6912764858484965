/- Marks put into joints that a call has made, and found again. Own work. -/
import Derived.Test.YtjagfeihmnagkaaGreatDoorMkN
import Derived.Test.YtjagfeihmnagkaaGreatDoorDwK
namespace Go.Proofs.YtjagfeihmnagkaaGreatDoor
open Go.RowKit
set_option maxHeartbeats 2000000

/-- The mark that joint i begins at. -/
def kj (js : List Jr) (k : Int) : Nat → Int
  | 0 => k
  | i + 1 => kj js k i + 2 + 2 * ((js[i]?.map fun t : Jr => t.jt.ends.length).getD 0 : Nat)
theorem kj_succ (js : List Jr) (k : Int) (i : Nat) (h : i < js.length) : kj js k (i + 1) = kj js k i + 2 + 2 * (js[i].jt.ends.length : Int) := by
  rw [kj, List.getElem?_eq_getElem h]; rfl
theorem kj_bd (js : List Jr) (k : Int) (hm : ∀ t ∈ js, t.jt.ends.length ≤ 1048576) (i : Nat) (hi : i ≤ js.length) : k ≤ kj js k i ∧ kj js k i ≤ k + 4194304 * i := by
  induction i with
  | zero => simp [kj]
  | succ i ih =>
    have h := ih (by omega)
    have := hm _ (List.getElem_mem (show i < js.length by omega))
    rw [kj_succ js k i (by omega)]
    omega
def EndsR (w : World) (js : List Jr) : Prop := ∀ t ∈ js, ∃ eb q, t.ad = some ⟨eb, 0, none⟩ ∧ t.jt.ends.length * 2 ≤ q ∧ Row w eb 60 q
def MkJ (w : World) (a : Option Addr) (js : List Jr) (k : Int) : Prop := ∀ i (_ : i < js.length), ∃ b, a = some ⟨b, 0, none⟩ ∧ w.cell? ⟨b, i * 3, none⟩ = some (.int .i64 (kj js k i)) ∧ w.cell? ⟨b, i * 3 + 1, none⟩ = some (.string (mtext (kj js k i + 1))) ∧ w.cell? ⟨b, i * 3 + 2, none⟩ = some (.slice js[i].ad js[i].jt.ends.length js[i].cap) ∧ Marked w js[i].ad js[i].jt.ends.length (kj js k i + 2)
theorem Marked.later {w w' : World} {a : Option Addr} {n : Nat} {k : Int} (h : Marked w a n k) (hb : Below w.heap.size w w') : Marked w' a n k := fun i hi => by
  obtain ⟨b, h0, h1, h2⟩ := h i hi
  exact ⟨b, h0, cell_later' hb h1, cell_later' hb h2⟩
theorem Marked.on {S : Nat → Prop} {w w' : World} {a : Option Addr} {n : Nat} {k : Int} (h : Marked w a n k) (ho : On S w w') (hS : ∀ b, a = some ⟨b, 0, none⟩ → ¬ S b) : Marked w' a n k := fun i hi => by
  obtain ⟨b, h0, h1, h2⟩ := h i hi
  exact ⟨b, h0, ho.cell (hS b h0) h1, ho.cell (hS b h0) h2⟩
theorem Row.on {S : Nat → Prop} {w w' : World} {b n : Nat} {t : TypeId} (hr : Row w b t n) (ho : On S w w') (hS : ¬ S b) : Row w' b t n := by
  obtain ⟨f, hf⟩ := hr
  exact ⟨f, hf.of_block (ho.block b hf.lt hS)⟩
theorem EndsR.on {S : Nat → Prop} {w w' : World} {js : List Jr} (h : EndsR w js) (ho : On S w w') (hS : ∀ t ∈ js, ∀ b, t.ad = some ⟨b, 0, none⟩ → ¬ S b) : EndsR w' js := fun t ht => by
  obtain ⟨eb, q, h0, h1, h2⟩ := h t ht
  exact ⟨eb, q, h0, h1, h2.on ho (hS t ht eb h0)⟩
theorem row_ne {w : World} {b b' n n' : Nat} {t t' : TypeId} (h : Row w b t n) (h' : Row w b' t' n') (ht : t ≠ t') : b ≠ b' := fun e => by
  subst e
  obtain ⟨f, c, hc, _⟩ := h
  obtain ⟨f', c', hc', _⟩ := h'
  rw [hc] at hc'
  injection hc' with hc'
  injection hc' with _ e2
  exact ht e2
theorem row_one {w : World} {b n n' : Nat} {t : TypeId} (h : Row w b t n) (h' : Row w b t n') : n = n' := by
  obtain ⟨f, c, hc, hn, _⟩ := h
  obtain ⟨f', c', hc', hn', _⟩ := h'
  rw [hc] at hc'
  injection hc' with hc'
  injection hc' with e1
  rw [← hn, ← hn', e1]
/-- The blocks of the joints. -/
def JS (b : Nat) (js : List Jr) (x : Nat) : Prop := x = b ∨ ∃ t ∈ js, t.ad = some ⟨x, 0, none⟩
theorem MkJ.later {w w' : World} {a : Option Addr} {js : List Jr} {k : Int} (h : MkJ w a js k) (hb : Below w.heap.size w w') : MkJ w' a js k := fun i hi => by
  obtain ⟨b, h0, h1, h2, h3, h4⟩ := h i hi
  exact ⟨b, h0, cell_later' hb h1, cell_later' hb h2, cell_later' hb h3, h4.later hb⟩
theorem MkP.later {w w' : World} {a : Option Addr} {n : Nat} {k : Int} (h : MkP w a n k) (hb : Below w.heap.size w w') : MkP w' a n k := fun i hi => by
  obtain ⟨b, h0, h1, h2, h3, h4⟩ := h i hi
  exact ⟨b, h0, cell_later' hb h1, cell_later' hb h2, cell_later' hb h3, cell_later' hb h4⟩
theorem MkP.on {S : Nat → Prop} {w w' : World} {a : Option Addr} {n : Nat} {k : Int} (h : MkP w a n k) (ho : On S w w') (hS : ∀ b, a = some ⟨b, 0, none⟩ → ¬ S b) : MkP w' a n k := fun i hi => by
  obtain ⟨b, h0, h1, h2, h3, h4⟩ := h i hi
  exact ⟨b, h0, ho.cell (hS b h0) h1, ho.cell (hS b h0) h2, ho.cell (hS b h0) h3, ho.cell (hS b h0) h4⟩
/-- Joints half marked. -/
structure JHalf (w : World) (b m : Nat) (js : List Jr) (k : Int) (t : Nat) (f : Nat → Value) (wr : World) : Prop where
  row : wr.rowIs b 58 m f
  done : ∀ j, j < t → f (j * 3) = .int .i64 (kj js k j) ∧ f (j * 3 + 1) = .string (mtext (kj js k j + 1))
  lists : ∀ j (_ : j < js.length), f (j * 3 + 2) = .slice js[j].ad js[j].jt.ends.length js[j].cap
  ends : EndsR wr js
  marks : ∀ j (_ : j < js.length), j < t → Marked wr js[j].ad js[j].jt.ends.length (kj js k j + 2)
  on : On (JS b js) w wr
theorem markJointS_row (b m cap : Nat) (js : List Jr) (k : Int) (w : World) (hn : js.length ≤ 1048576) (hm : ∀ t ∈ js, t.jt.ends.length ≤ 1048576) (hnm : js.length * 3 ≤ m) (h0 : 0 ≤ k) (h1 : k ≤ 4294967296) (hr : Row w b 58 m) (hl : ∀ i (_ : i < js.length), w.cell? ⟨b, i * 3 + 2, none⟩ = some (.slice js[i].ad js[i].jt.ends.length js[i].cap)) (he : EndsR w js) (hap : js.Pairwise fun s t => s.ad ≠ t.ad) :
    Calls Tryz.prog 38 #[.slice (some ⟨b, 0, none⟩) js.length cap, .int .i64 k] w fun e w' =>
    e = .returned (.int .i64 (kj js k js.length)) ∧ On (JS b js) w w' ∧ MkJ w' (some ⟨b, 0, none⟩) js k := by
  have HH : ∃ f, Hid (JHalf w b m js k 0 f w) := by
    obtain ⟨f, hf⟩ := hr
    exact ⟨f, hf, fun j hj => by omega, fun j hj => by have h := hl j hj; rw [hf.cell (by omega)] at h; exact Option.some.inj h, he, fun j _ hj => by omega, On.refl _ _⟩
  have HM := hide hm
  have HAP := hide (fun (i j : Nat) (hi : i < js.length) (hj : j < js.length) (h : i ≠ j) => show js[i].ad ≠ js[j].ad from by
    rcases Nat.lt_or_gt_of_ne h with h | h
    · exact List.pairwise_iff_getElem.1 hap i j hi hj h
    · exact fun e => List.pairwise_iff_getElem.1 hap j i hj hi h e.symm)
  have HKB := hide (kj_bd js k hm)
  clear hr hm hl he hap
  go_enter Tryz.func38, Tryz.ntmps38
  go_wp2_with fail
  go_loopw [1, 5] (fun q i wr => ∃ (t : Nat) (f : Nat → Value), t ≤ js.length ∧ i = .int .i64 t ∧ q = .int .i64 (kj js k t) ∧ Hid (JHalf w b m js k t f wr)) (fun _ i _ => js.length - (intOf i).toNat)
  case atStart =>
    obtain ⟨f, hf⟩ := HH
    exact ⟨0, f, Nat.zero_le _, rfl, rfl, hf⟩
  case round =>
    obtain ⟨t, f, ht, rfl, rfl, HJ⟩ := hrel
    have hkb := HKB.out t ht
    by_cases hlt : t < js.length
    · have hme := HM.out _ (List.getElem_mem hlt)
      have HKS := hide (kj_succ js k t hlt)
      obtain ⟨eb, q, had, hlq, hrq⟩ := HJ.out.ends _ (List.getElem_mem hlt)
      have HNE := hide (show ∀ s ∈ js, ∀ x, s.ad = some ⟨x, 0, none⟩ → ¬ x = b from fun s hs x hx e => by
        obtain ⟨eb', q', e1, _, e3⟩ := HJ.out.ends s hs
        rw [e1] at hx
        have : eb' = x := by simpa using hx
        exact row_ne e3 ⟨f, HJ.out.row⟩ (by decide) (by omega))
      have HRQ := hide hrq
      have hneb : eb ≠ b := HNE.out _ (List.getElem_mem hlt) eb had
      obtain ⟨kt, hkt⟩ : ∃ kt, kj js k t = kt := ⟨_, rfl⟩
      have d0 := HJ.out.row.cell (i := t * 3) (by omega)
      have z0 := HJ.out.row.frozen (t * 3)
      have HKT := hide hkt
      rw [hkt] at hkb ⊢
      clear hkt hrq
      go_wp2_with fail
      refine (markText_any _ _ (by omega) (by omega)).mono ?_
      rintro e w1 ⟨rfl, hb1⟩
      have hrow1 : w1.rowIs b 58 m _ := (HJ.out.row.set (t * 3) (.int .i64 kt)).of_block (hb1.block b (HJ.out.row.set (t * 3) (.int .i64 kt)).lt)
      have d1 := hrow1.cell (i := t * 3 + 1) (by omega)
      have z1 := hrow1.frozen (t * 3 + 1)
      have hrow2 := hrow1.set (t * 3 + 1) (.string (mtext (kt + 1)))
      have HON := hide (show On (· = b) wr (w1.setCell ⟨b, t * 3 + 1, none⟩ (.string (mtext (kt + 1)))) from ((On.set _ (S := (· = b)) rfl _).trans (On.of_below hb1)).trans (On.set _ (S := (· = b)) rfl _))
      have d2 := hrow2.cell (i := t * 3 + 2) (by omega)
      rw [if_neg (by omega), if_neg (by omega), HJ.out.lists t hlt, had] at d2
      have HROW2 := hide hrow2
      clear hb1 hrow1 hrow2
      have hld := cell_lt d2
      go_wp2_with fail
      refine (markEndS_row eb _ q _ _ _ hme hlq (by omega) (by omega) (HRQ.out.on HON.out hneb)).mono ?_
      rintro e w2 ⟨rfl, hon2, hr2, hm2⟩
      have HR3 := hide (HROW2.out.of_block (hon2.block b HROW2.out.lt (fun e => hneb e.symm)))
      have hkn : kt + 1 + 1 + 2 * (js[t].jt.ends.length : Int) = kj js k (t + 1) := by rw [HKS.out, HKT.out]; omega
      have HJ2 : Hid (JHalf w b m js k (t + 1) _ w2) := hide (by
        refine ⟨HR3.out, fun j hj => ?_, fun j hj => ?_, fun s hs => ?_, fun j hj hjt => ?_, ?_⟩
        · by_cases e : j = t
          · subst e
            constructor
            · rw [if_neg (by omega), if_pos rfl, HKT.out]
            · rw [if_pos rfl, HKT.out]
          · have := HJ.out.done j (by omega)
            constructor
            · rw [if_neg (by omega), if_neg (by omega)]; exact this.1
            · rw [if_neg (by omega), if_neg (by omega)]; exact this.2
        · rw [if_neg (by omega), if_neg (by omega)]; exact HJ.out.lists j hj
        · obtain ⟨eb', q', e1, e2, e3⟩ := HJ.out.ends s hs
          have e3 := e3.on HON.out (HNE.out s hs eb' e1)
          by_cases e : eb' = eb
          · subst e
            have hqq := row_one e3 (HRQ.out.on HON.out hneb)
            subst hqq
            exact ⟨eb', q', e1, e2, hr2⟩
          · exact ⟨eb', q', e1, e2, e3.on hon2 e⟩
        · by_cases e : j = t
          · subst e
            rw [had, HKT.out]
            have h9 : kt + 1 + 1 = kt + 2 := by omega
            rw [← h9]
            exact hm2
          · have h := HJ.out.marks j hj (by omega)
            refine (h.on HON.out (HNE.out _ (List.getElem_mem hj))).on hon2 (fun x hx e2 => ?_)
            have := HAP.out j t hj hlt e
            rw [hx, had, e2] at this
            exact this rfl
        · exact (HJ.out.on.trans (HON.out.mono fun x _ e => .inl e)).trans (hon2.mono fun x _ e => .inr ⟨_, List.getElem_mem hlt, by rw [had, e]⟩))
      clear hon2 hr2 hm2
      go_wp2_with fail
      go_roundw
      case rel => exact ⟨t + 1, _, by omega, by go_num, by rw [← hkn], HJ2⟩
      case measure => simp [intOf]; omega
    · obtain rfl : t = js.length := by omega
      go_wp2_with fail
      go_ret
      refine ⟨rfl, HJ.out.on, fun i hi => ⟨b, rfl, ?_, ?_, ?_, HJ.out.marks i hi hi⟩⟩
      · rw [HJ.out.row.cell (by omega), (HJ.out.done i hi).1]
      · rw [HJ.out.row.cell (by omega), (HJ.out.done i hi).2]
      · rw [HJ.out.row.cell (by omega), HJ.out.lists i hi]
theorem heldJointS_any (a : Option Addr) (cap : Nat) (js : List Jr) (k : Int) (w : World) (hn : js.length ≤ 1048576) (hm : ∀ t ∈ js, t.jt.ends.length ≤ 1048576) (h0 : 0 ≤ k) (h1 : k ≤ 4294967296) (hk : MkJ w a js k) :
    Calls Tryz.prog 40 #[.slice a js.length cap, .int .i64 k] w fun e w' => e = .returned (.int .i64 (kj js k js.length)) ∧ Below w.heap.size w w' := by
  have HK := hide hk
  have HM := hide hm
  have HKB := hide (kj_bd js k hm)
  clear hm hk
  go_enter Tryz.func40, Tryz.ntmps40
  go_wp2_with fail
  go_loopw [1, 5] (fun q i wr => ∃ (t : Nat), t ≤ js.length ∧ i = .int .i64 t ∧ q = .int .i64 (kj js k t) ∧ Hid (Below w.heap.size w wr)) (fun _ i _ => js.length - (intOf i).toNat)
  case atStart => exact ⟨0, Nat.zero_le _, rfl, rfl, Below.refl _ _⟩
  case round =>
    obtain ⟨t, ht, rfl, rfl, HB⟩ := hrel
    have hkb := HKB.out t ht
    by_cases hlt : t < js.length
    · have hme := HM.out _ (List.getElem_mem hlt)
      have HKS := hide (kj_succ js k t hlt)
      obtain ⟨b, rfl, d0, d1, d2, hmk⟩ := HK.out t hlt
      obtain ⟨kt, hkt⟩ : ∃ kt, kj js k t = kt := ⟨_, rfl⟩
      rw [hkt] at hkb d0 d1 hmk HKS ⊢
      clear hkt
      have d0 := cell_later' HB.out d0
      have d1 := cell_later' HB.out d1
      have d2 := cell_later' HB.out d2
      have HMK := hide (hmk.later HB.out)
      have hld := cell_lt d0
      clear hmk
      go_wp2_with fail
      have h66 : Below _ _ (wr.drew) := (Below.refl wr.heap.size wr).drew
      go_region_with (first
        | (go_at_call 53; refine (markText_any _ _ ?_ ?_).mono ?_; omega; omega; rintro e w1 ⟨rfl, hb1⟩; have hb2 := h66.trans hb1; have d1' := cell_later' hb2 d1; have hld' := cell_lt d1'))
      all_goals
        have d2 := cell_later' hb2 d2
        have hld := cell_lt d2
        have HB2 := hide (HB.out.trans (hb2.mono HB.out.size))
        have HMK2 := hide (HMK.out.later hb2)
        clear hb1 hb2 h66
        go_wp2_with fail
        refine (heldEndS_any _ _ _ _ _ hme ?_ ?_ (by have h9 : kt + 1 + 1 = kt + 2 := by omega
                                                     rw [h9]; exact HMK2.out)).mono ?_
        · omega
        · omega
        rintro e w3 ⟨rfl, rfl⟩
        have hkn : kt + 1 + 1 + 2 * (js[t].jt.ends.length : Int) = kj js k (t + 1) := by rw [HKS.out]; omega
        go_wp2_with fail
        go_roundw
        case rel => exact ⟨t + 1, by omega, by go_num, by rw [← hkn], HB2⟩
        case measure => simp [intOf]; omega
    · obtain rfl : t = js.length := by omega
      go_wp2_with fail
      go_ret
      exact ⟨rfl, HB.out⟩
end Go.Proofs.YtjagfeihmnagkaaGreatDoor

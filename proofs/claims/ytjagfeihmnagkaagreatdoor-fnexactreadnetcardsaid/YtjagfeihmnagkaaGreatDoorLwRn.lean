/- What a text tells, marked and found again; eqTold. Own work. -/
import Derived.Test.YtjagfeihmnagkaaGreatDoorMkO
import Derived.Test.YtjagfeihmnagkaaGreatDoorEq
import Derived.Test.YtjagfeihmnagkaaGreatDoorRnX
import Derived.Test.YtjagfeihmnagkaaGreatDoorRiU
namespace Go.Proofs.YtjagfeihmnagkaaGreatDoor
open Go.RowKit
set_option maxHeartbeats 2000000

theorem row_of_cur {w : World} {g : Nat} {cur : Array Value} {e : TypeId} (hg : w.heap[g]? = some (.cells cur e (0, 0))) : Row w g e cur.size :=
  ⟨fun i => cur[i]?.getD default, cur, hg, rfl, fun i hi => by simp [hi]⟩
theorem markPieceS_own (base : Nat) (pv : Value) (ps : List Pc) (k : Int) (w : World) (hn : ps.length ≤ 1048576) (h0 : 0 ≤ k) (h1 : k ≤ 1125899906842624) (h : w.ownsRow base 55 4 pv ps.length (pcCells ps)) :
    Calls Tryz.prog 37 #[pv, .int .i64 k] w fun e w' => e = .returned (.int .i64 (k + 4 * ps.length)) ∧ On (fun x => pv.ownBlock = some x) w w' ∧ ∃ a cap, pv = .slice a ps.length cap ∧ MkP w' a ps.length k := by
  rcases id h.2 with ⟨rfl, hz⟩ | ⟨g, cap, cur, rfl, _, hg, hc, _, hs, _⟩
  · refine (markPieceS_none none 0 k w).mono ?_
    rintro e w' ⟨rfl, rfl⟩
    exact ⟨by rw [hz]; simp, On.refl _ _, none, 0, by rw [hz], fun i hi => by omega⟩
  · refine (markPieceS_row g ps.length cur.size cap k w hn (by omega) h0 h1 (row_of_cur hg)).mono ?_
    rintro e w' ⟨rfl, hon, hm⟩
    exact ⟨rfl, hon.mono (fun x _ e => by rw [e]; rfl), _, _, rfl, hm⟩
theorem markJointS_own (base : Nat) (jv : Value) (js : List Jr) (k : Int) (w : World) (hn : js.length ≤ 1048576) (hm : ∀ t ∈ js, t.jt.ends.length ≤ 1048576) (h0 : 0 ≤ k) (h1 : k ≤ 4294967296) (h : KR w base jv js) :
    Calls Tryz.prog 38 #[jv, .int .i64 k] w fun e w' => e = .returned (.int .i64 (kj js k js.length)) ∧ On (fun x => jv.ownBlock = some x ∨ ∃ t ∈ js, t.ad = some ⟨x, 0, none⟩) w w' ∧ ∃ a cap, jv = .slice a js.length cap ∧ MkJ w' a js k := by
  have hap := h.apart
  have he : EndsR w js := fun t ht => by
    obtain ⟨eb, h1, h2⟩ := h.ends t ht
    rcases id h2.2 with ⟨e, hz⟩ | ⟨g, cap, cur, e, _, hg, hc, _, hs, _⟩
    · rw [h1] at e; cases e
    · rw [h1] at e
      have e1 : eb = g := by simpa using (Value.slice.inj e).1
      subst e1
      exact ⟨eb, cur.size, h1, by omega, row_of_cur hg⟩
  have hown := h.own
  rcases id h.own.2 with ⟨rfl, hz⟩ | ⟨g, cap, cur, rfl, _, hg, hc, _, hs, _⟩
  · refine (markJointS_none none 0 k w).mono ?_
    rintro e w' ⟨rfl, rfl⟩
    exact ⟨by rw [hz]; rfl, On.refl _ _, none, 0, by rw [hz], fun i hi => by omega⟩
  · refine (markJointS_row g cur.size cap js k w hn hm (by omega) h0 h1 (row_of_cur hg) (fun i hi => by rw [hown.cellAt _ (by omega), (jtCells_at js i hi).2.2]) he hap).mono ?_
    rintro e w' ⟨rfl, hon, hm⟩
    exact ⟨rfl, hon.mono (fun x _ e => by rcases e with e | e; · left; rw [e]; rfl
                                          · exact .inr e), _, _, rfl, hm⟩
/-- The blocks of what is told. -/
def TS (pv jv : Value) (js : List Jr) (x : Nat) : Prop := pv.ownBlock = some x ∨ jv.ownBlock = some x ∨ ∃ t ∈ js, t.ad = some ⟨x, 0, none⟩
/-- What is told, marked. -/
def MkT (w : World) (pv jv : Value) (n : Nat) (js : List Jr) (k : Int) : Prop := ∃ a cap a' cap', pv = .slice a n cap ∧ jv = .slice a' js.length cap' ∧ MkP w a n k ∧ MkJ w a' js (k + 4 * n)
theorem MkT.later {w w' : World} {pv jv : Value} {n : Nat} {js : List Jr} {k : Int} (h : MkT w pv jv n js k) (hb : Below w.heap.size w w') : MkT w' pv jv n js k := by
  obtain ⟨a, cap, a', cap', h0, h1, h2, h3⟩ := h
  exact ⟨a, cap, a', cap', h0, h1, h2.later hb, h3.later hb⟩
theorem TS.bd {w : World} {base : Nat} {pv jv : Value} {ps : List Pc} {js : List Jr} (hp : w.ownsRow base 55 4 pv ps.length (pcCells ps)) (hj : KR w base jv js) {x : Nat} (h : TS pv jv js x) : base ≤ x ∧ x < w.heap.size := by
  rcases h with h | h | ⟨t, ht, h⟩
  · exact hp.lt x h
  · exact hj.own.lt x h
  · obtain ⟨eb, h1, h2⟩ := hj.ends t ht
    rw [h1] at h
    have e : eb = x := by simpa using h
    subst e
    exact h2.lt eb (by rw [h1]; rfl)
theorem KR.onJ {S : Nat → Prop} {w w' : World} {base : Nat} {jv : Value} {js : List Jr} (h : KR w base jv js) (ho : On S w w') (hS : ∀ x, (jv.ownBlock = some x ∨ ∃ t ∈ js, t.ad = some ⟨x, 0, none⟩) → ¬ S x) : KR w' base jv js := by
  have hO : ∀ {e : TypeId} {size : Nat} {v : Value} {n : Nat} {xs : List Value}, w.ownsRow base e size v n xs → (∀ x, v.ownBlock = some x → ¬ S x) → w'.ownsRow base e size v n xs := by
    intro e size v n xs h hv
    refine ⟨h.1, ?_⟩
    rcases h.2 with h' | ⟨g, cap, cur, rfl, hbg, hg, rest⟩
    · exact .inl h'
    · exact .inr ⟨g, cap, cur, rfl, hbg, by rw [ho.block g (Array.getElem?_eq_some_iff.1 hg).1 (hv g rfl)]; exact hg, rest⟩
  refine ⟨hO h.own (fun x e => hS x (.inl e)), fun t ht => ?_, h.apart⟩
  obtain ⟨eb, h1, h2⟩ := h.ends t ht
  exact ⟨eb, h1, hO h2 (fun x e => hS x (.inr ⟨t, ht, by rw [h1] at e ⊢; have : eb = x := by simpa [Value.ownBlock] using e
                                                         rw [this]⟩))⟩
theorem markNet_own (base : Nat) (pv jv : Value) (ps : List Pc) (js : List Jr) (k : Int) (w : World) (hn : ps.length ≤ 1048576) (hn' : js.length ≤ 1048576) (hm : ∀ t ∈ js, t.jt.ends.length ≤ 1048576) (h0 : 0 ≤ k) (h1 : k ≤ 4294967) (hp : w.ownsRow base 55 4 pv ps.length (pcCells ps)) (hj : KR w base jv js) :
    Calls Tryz.prog 17 #[.agg #[pv, jv], .int .i64 k] w fun e w' => e = .returned (.int .i64 (kj js (k + 4 * ps.length) js.length)) ∧ On (TS pv jv js) w w' ∧ MkT w' pv jv ps.length js k := by
  obtain ⟨pa, pcap, rfl, _⟩ := pcs_at_of hp
  obtain ⟨ja, jcap, rfl, _⟩ := kjts_at_of hj
  have HB := hide (fun x (h : TS (.slice pa ps.length pcap) (.slice ja js.length jcap) js x) => TS.bd hp hj h)
  have HPJ := hide (show ∀ x, (Value.slice pa ps.length pcap).ownBlock = some x → ¬ ((Value.slice ja js.length jcap).ownBlock = some x ∨ ∃ t ∈ js, t.ad = some ⟨x, 0, none⟩) from fun x e h => by
    rcases h with h | ⟨t, ht, h⟩
    · rcases owns_ne hp hj.own (by decide) with h9 | h9
      · rw [h9] at e; cases e
      · exact h9 (e.trans h.symm)
    · obtain ⟨eb, h1, h2⟩ := hj.ends t ht
      rcases owns_ne hp h2 (by decide) with h9 | h9
      · rw [h9] at e; cases e
      · exact h9 (e.trans (by rw [h]; rfl)))
  have HP := hide hp
  have HJ := hide hj
  have HM := hide hm
  clear hp hj hm
  go_enter Tryz.func17, Tryz.ntmps17
  go_wp2_with fail
  have hbA := bS0 w (.cells #[.slice pa ps.length pcap, .slice ja js.length jcap] 25)
  refine (markPieceS_own base _ ps k _ hn h0 (by omega) (owns_later' HP.out hbA)).mono ?_
  rintro e w1 ⟨rfl, hon1, a, cap, ea, hmp⟩
  have hbx : ¬ (Value.slice pa ps.length pcap).ownBlock = some w.heap.size := fun e => by have := HB.out _ (.inl e); omega
  have n1 := hon1.cell hbx (new_cell w #[.slice pa ps.length pcap, .slice ja js.length jcap] 25 1 _ rfl)
  have HJ1 := hide ((HJ.out.later hbA).onJ hon1 (fun x hx e => HPJ.out x e hx))
  have HON1 := hide ((On.of_below (S := TS (.slice pa ps.length pcap) (.slice ja js.length jcap) js) hbA).trans (hon1.mono fun x _ e => .inl e))
  have HMP := hide hmp
  clear hon1 hmp hbx hbA
  obtain ⟨rfl, _, rfl⟩ := Value.slice.inj ea
  clear ea
  have hln := cell_lt n1
  go_wp2_with fail
  refine (markJointS_own base _ js _ _ hn' HM.out (by omega) (by omega) HJ1.out).mono ?_
  rintro e w2 ⟨rfl, hon2, a', cap', ea', hmj⟩
  have HF := hide (HON1.out.trans (hon2.mono fun x _ e => .inr e))
  have HT : Hid (MkT w2 (.slice pa ps.length pcap) (.slice ja js.length jcap) ps.length js k) := ⟨pa, pcap, a', cap', rfl, ea', HMP.out.on hon2 (fun b e h => HPJ.out b (by rw [e]; rfl) h), hmj⟩
  clear hon2 hmj ea'
  go_wp2_with fail
  go_ret
  exact ⟨rfl, HF.out, HT.out⟩
theorem heldNet_any (pv jv : Value) (n : Nat) (js : List Jr) (k : Int) (w : World) (hn : n ≤ 1048576) (hn' : js.length ≤ 1048576) (hm : ∀ t ∈ js, t.jt.ends.length ≤ 1048576) (h0 : 0 ≤ k) (h1 : k ≤ 4294967) (h : MkT w pv jv n js k) :
    Calls Tryz.prog 18 #[.agg #[pv, jv], .int .i64 k] w fun e w' => e = .returned (.int .i64 (kj js (k + 4 * n) js.length)) ∧ Below w.heap.size w w' := by
  obtain ⟨a, cap, a', cap', rfl, rfl, hp, hj⟩ := h
  have HP := hide hp
  have HJ := hide hj
  have hkb := kj_bd js (k + 4 * n) hm js.length (Nat.le_refl _)
  have HM := hide hm
  obtain ⟨kk, hkk⟩ : ∃ kk, kj js (k + 4 * n) js.length = kk := ⟨_, rfl⟩
  have HKK := hide hkk
  rw [hkk] at hkb ⊢
  clear hp hj hm hkk
  go_enter Tryz.func18, Tryz.ntmps18
  go_wp2_with fail
  have hbA := bS0 w (.cells #[.slice a n cap, .slice a' js.length cap'] 25)
  refine (heldPieceS_any a n cap k _ hn h0 (by omega) (HP.out.later hbA)).mono ?_
  rintro e w1 ⟨rfl, hb1⟩
  have n1 := cell_later' hb1 (new_cell w #[.slice a n cap, .slice a' js.length cap'] 25 1 _ rfl)
  have HB1 := hide (chnB hbA hb1)
  clear hbA hb1
  have hln := cell_lt n1
  go_wp2_with fail
  refine (heldJointS_any a' cap' js _ _ hn' HM.out (by omega) (by omega) (HJ.out.later HB1.out)).mono ?_
  rintro e w2 ⟨rfl, hb2⟩
  have HB2 := hide (chnB HB1.out hb2)
  rw [HKK.out]
  clear hb2
  go_wp2_with fail
  go_ret
  exact ⟨rfl, HB2.out⟩
theorem markTold_own (base : Nat) (c l : Int) (pv jv : Value) (ps : List Pc) (js : List Jr) (k : Int) (w : World) (hn : ps.length ≤ 1048576) (hn' : js.length ≤ 1048576) (hm : ∀ t ∈ js, t.jt.ends.length ≤ 1048576) (h0 : 0 ≤ k) (h1 : k ≤ 4294967) (hp : w.ownsRow base 55 4 pv ps.length (pcCells ps)) (hj : KR w base jv js) :
    Calls Tryz.prog 7 #[.agg #[.int .i64 c, .int .i64 l, pv, jv], .int .i64 k] w fun e w' => e = .returned (.int .i64 (kj js (k + 4 * ps.length) js.length)) ∧ On (TS pv jv js) w w' ∧ MkT w' pv jv ps.length js k := by
  obtain ⟨pa, pcap, rfl, _⟩ := pcs_at_of hp
  obtain ⟨ja, jcap, rfl, _⟩ := kjts_at_of hj
  have hbA := bS0 w (.cells #[.int .i64 c, .int .i64 l, .slice pa ps.length pcap, .slice ja js.length jcap] 27)
  have HC := hide (markNet_own base _ _ ps js k _ hn hn' hm h0 h1 (owns_later' hp hbA) (hj.later hbA))
  have HBA := hide hbA
  clear hbA hp hj hm
  go_enter Tryz.func7, Tryz.ntmps7
  go_wp2_with fail
  refine HC.out.mono ?_
  rintro e w1 ⟨rfl, hon, hmk⟩
  have HON := hide ((On.of_below (S := TS (.slice pa ps.length pcap) (.slice ja js.length jcap) js) HBA.out).trans hon)
  have HMK := hide hmk
  clear hon hmk HC
  go_wp2_with fail
  go_ret
  exact ⟨rfl, HON.out, HMK.out⟩
theorem heldTold_any (c l : Int) (pv jv : Value) (n : Nat) (js : List Jr) (k : Int) (w : World) (hn : n ≤ 1048576) (hn' : js.length ≤ 1048576) (hm : ∀ t ∈ js, t.jt.ends.length ≤ 1048576) (h0 : 0 ≤ k) (h1 : k ≤ 4294967) (h : MkT w pv jv n js k) :
    Calls Tryz.prog 8 #[.agg #[.int .i64 c, .int .i64 l, pv, jv], .int .i64 k] w fun e w' => e = .returned (.int .i64 (kj js (k + 4 * n) js.length)) ∧ Below w.heap.size w w' := by
  have h' := h
  obtain ⟨a, cap, a', cap', rfl, rfl, _⟩ := h'
  have hbA := bS0 w (.cells #[.int .i64 c, .int .i64 l, .slice a n cap, .slice a' js.length cap'] 27)
  have HC := hide (heldNet_any _ _ n js k _ hn hn' hm h0 h1 (h.later hbA))
  have HBA := hide hbA
  have hkb := kj_bd js (k + 4 * n) hm js.length (Nat.le_refl _)
  obtain ⟨kk, hkk⟩ : ∃ kk, kj js (k + 4 * n) js.length = kk := ⟨_, rfl⟩
  rw [hkk] at hkb HC ⊢
  clear hbA h hm hkk
  go_enter Tryz.func8, Tryz.ntmps8
  go_wp2_with fail
  refine HC.out.mono ?_
  rintro e w1 ⟨rfl, hb1⟩
  have HB1 := hide (chnB HBA.out hb1)
  clear hb1 HC
  go_wp2_with fail
  go_ret
  exact ⟨rfl, HB1.out⟩
theorem eqTold_same (c l : Int) (a a' b b' : Option Addr) (N : Nt) (ca ca' cb cb' : Nat) (w : World) (hn : N.pcs.length ≤ 1048576) (hn' : N.jts.length ≤ 1048576) (hm : ∀ j ∈ N.jts, j.ends.length ≤ 1048576) (hp : PcsAt w a N.pcs) (hp' : PcsAt w a' N.pcs) (hj : JtsAt w b N.jts) (hj' : JtsAt w b' N.jts) :
    Calls Tryz.prog 6 #[.agg #[.int .i64 c, .int .i64 l, .slice a N.pcs.length ca, .slice b N.jts.length cb], .agg #[.int .i64 c, .int .i64 l, .slice a' N.pcs.length ca', .slice b' N.jts.length cb']] w fun e w' =>
    e = .returned (.bool true) ∧ Below w.heap.size w w' := by
  have hb1 := bS0 w (.cells #[.int .i64 c, .int .i64 l, .slice a N.pcs.length ca, .slice b N.jts.length cb] 27)
  have hb2 := chnB hb1 (bS0 _ (.cells #[.int .i64 c, .int .i64 l, .slice a' N.pcs.length ca', .slice b' N.jts.length cb'] 27))
  have HC := hide (eqNet_same a a' b b' N ca ca' cb cb' _ hn hn' hm (hp.later hb2) (hp'.later hb2) (hj.later hb2) (hj'.later hb2))
  have HB2 := hide hb2
  clear hb1 hb2 hp hp' hj hj' hm
  go_enter Tryz.func6, Tryz.ntmps6
  go_wp2_with fail
  refine HC.out.mono ?_
  rintro e w1 ⟨rfl, hb1⟩
  have HB3 := hide (chnB HB2.out hb1)
  clear hb1 HC
  go_wp2_with fail
  go_ret
  exact ⟨rfl, HB3.out⟩
/-- How great what a text tells is. -/
theorem readG_size (N : Nt) (i : Nat) (ls : List Bl) (h : NSz N i) : NSz (readG N i ls).2.2 (i + ls.length) := by
  induction ls generalizing N i with
  | nil =>
    rw [readG]
    unfold wholeP
    split
    · exact ⟨by simp, by simp, by simp, by simp⟩
    · split
      · exact ⟨by simp, by simp, by simp, by simp⟩
      · exact h
  | cons l ls ih =>
    rw [readG]
    split
    · exact ⟨by simp, by simp, by simp, by simp⟩
    · have := ih _ (i + 1) (h.line (wordsL l))
      rw [show i + (l :: ls).length = i + 1 + ls.length by simp; omega]
      exact this
theorem told_size (t : Bl) : NSz (toldP (sb t)).2.2 65537 := by
  unfold toldP
  split
  · exact ⟨by simp, by simp, by simp, by simp⟩
  · rename_i hs
    have h := readG_size ⟨[], []⟩ 0 (linesL (bs (sb t))) ⟨by simp, by simp, by simp, by simp⟩
    have hb := (linesG_bd (bs (sb t)) []).1
    rw [bs_sb] at h hb ⊢
    have hl : t.length ≤ 65536 := by rw [sb_size] at hs; omega
    have hle : 0 + (linesL t).length ≤ 65537 := by unfold linesL; omega
    exact ⟨Nat.le_trans h.pcs hle, Nat.le_trans h.jts hle, h.pn, h.jn⟩
end Go.Proofs.YtjagfeihmnagkaaGreatDoor

/- spec.l5copy: a track copied, all rows its own. Own work. -/
import Derived.Test.YteapmddadieohaaDwF
import Derived.Deep.RegionLaw
import Derived.Deep.CutRange
import Derived.Deep.DeepCutAuto
import Derived.Test.YteapmddadieohaaDvC
import Derived.Deep.RegionHeld3
import Derived.BigRegion
import Derived.Test.YteapmddadieohaaMxAV
import Derived.Test.YteapmddadieohaaMxAH
import Derived.Test.YteapmddadieohaaDwE
import Derived.Test.YteapmddadieohaaMxAC
import Derived.Test.YteapmddadieohaaMxAJ
import Derived.Test.YteapmddadieohaaDwH
namespace Go.Proofs.Yteapmddadieohaa
open Go.RowKit
set_option maxHeartbeats 8000000

/-- The joints of a copy: each joint's ends are a row of their own. -/
structure KR (w : World) (base : Nat) (jv : Value) (js : List Jr) : Prop where
  own : w.ownsRow base 53 3 jv js.length (jtCells js)
  ends : ∀ t ∈ js, ∃ eb, t.ad = some ⟨eb, 0, none⟩ ∧ w.ownsRow base 59 2 (.slice t.ad t.jt.ends.length t.cap) t.jt.ends.length (endCells t.jt.ends)
  apart : js.Pairwise fun s t => s.ad ≠ t.ad
theorem KR.nil (w : World) (base : Nat) : KR w base (.slice none 0 0) [] := ⟨World.ownsRow_nil _ _ _ _, fun t h => by simp at h, List.Pairwise.nil⟩
theorem KR.later {w w' : World} {base : Nat} {jv : Value} {js : List Jr} (h : KR w base jv js) (hb : Below w.heap.size w w') : KR w' base jv js :=
  ⟨owns_later' h.own hb, fun t ht => by obtain ⟨eb, h1, h2⟩ := h.ends t ht; exact ⟨eb, h1, owns_later' h2 hb⟩, h.apart⟩
/-- All that the joints take lies below H. -/
def KLow (H : Nat) (jv : Value) (js : List Jr) : Prop := (∀ g, jv.ownBlock = some g → g < H) ∧ ∀ t ∈ js, ∀ eb, t.ad = some ⟨eb, 0, none⟩ → eb < H
theorem own_slice (eb n cap : Nat) : (Value.slice (some ⟨eb, 0, none⟩) n cap).ownBlock = some eb := rfl
theorem KR.low {w : World} {base : Nat} {jv : Value} {js : List Jr} (h : KR w base jv js) : KLow w.heap.size jv js := by
  refine ⟨fun g hg => (h.own.lt g hg).2, fun t ht eb he => ?_⟩
  obtain ⟨eb', h1, h2⟩ := h.ends t ht
  rw [he] at h2
  exact (h2.lt eb (own_slice _ _ _)).2
theorem KR.midUp {w w' : World} {base B C : Nat} {jv : Value} {js : List Jr} (h : KR w base jv js) (hm : Mid B C w w') (hl : KLow B jv js) : KR w' base jv js := by
  refine ⟨owns_midUp h.own hm hl.1, fun t ht => ?_, h.apart⟩
  obtain ⟨eb, h1, h2⟩ := h.ends t ht
  refine ⟨eb, h1, owns_midUp h2 hm fun g hg => ?_⟩
  rw [h1, own_slice] at hg
  obtain rfl : eb = g := by simpa using hg
  exact hl.2 t ht eb h1
theorem KR.setBelow {w : World} {base : Nat} {jv : Value} {js : List Jr} (h : KR w base jv js) {B o : Nat} (hB : B < base) (v : Value) : KR (w.setCell ⟨B, o, none⟩ v) base jv js :=
  ⟨ownsRow_setCell_below h.own (by show B < base; exact hB) v, fun t ht => by obtain ⟨eb, h1, h2⟩ := h.ends t ht; exact ⟨eb, h1, ownsRow_setCell_below h2 (by show B < base; exact hB) v⟩, h.apart⟩
/-- One joint more. -/
theorem KR.add {w w' : World} {base H eb : Nat} {jv jv' : Value} {js : List Jr} {t : Jr} (h : KR w base jv js) (hg : w.grownBy w' jv.ownBlock) (hown : w'.ownsRow base 53 3 jv' (js.length + 1) (jtCells js ++ [.int .i64 t.jt.kind, .string t.jt.name, .slice t.ad t.jt.ends.length t.cap])) (ht : t.ad = some ⟨eb, 0, none⟩) (hte : w.ownsRow base 59 2 (.slice t.ad t.jt.ends.length t.cap) t.jt.ends.length (endCells t.jt.ends)) (hl : KLow H jv js) (hH : H ≤ eb) : KR w' base jv' (js ++ [t]) := by
  refine ⟨by rw [jtCells_add, List.length_append]; exact hown, fun u hu => ?_, ?_⟩
  · rcases List.mem_append.1 hu with hu | hu
    · obtain ⟨eb, h1, h2⟩ := h.ends u hu
      exact ⟨eb, h1, owns_kept h2 h.own (by decide) hg⟩
    · have : u = t := by simpa using hu
      subst this
      exact ⟨eb, ht, owns_kept hte h.own (by decide) hg⟩
  · rw [List.pairwise_append]
    refine ⟨h.apart, by simp, fun s hs u hu => ?_⟩
    have : u = t := by simpa using hu
    subst this
    rw [ht]
    intro e
    have := hl.2 s hs eb e
    omega
theorem kjts_at_of {w : World} {base : Nat} {jv : Value} {js : List Jr} (h : KR w base jv js) : ∃ ja jcap, jv = .slice ja js.length jcap ∧ JtsAt w ja (js.map (·.jt)) := by
  rcases h.own.2 with ⟨rfl, h0⟩ | ⟨g, cap, cur, rfl, _⟩
  · refine ⟨none, 0, by rw [h0], fun k hk => by simp at hk; omega⟩
  · refine ⟨some ⟨g, 0, none⟩, cap, rfl, fun k hk => ?_⟩
    have hk' : k < js.length := by simpa using hk
    obtain ⟨h0, h1, h2⟩ := jtCells_at js k hk'
    obtain ⟨eb, e1, e2⟩ := h.ends js[k] (List.getElem_mem hk')
    have own := h.own
    simp only [List.getElem_map]
    exact ⟨g, 0, js[k].ad, js[k].cap, rfl, by rw [Nat.zero_add, own.cellAt _ (by omega), h0], by rw [Nat.zero_add, own.cellAt _ (by omega), h1], by rw [Nat.zero_add, own.cellAt _ (by omega), h2], by rw [e1] at e2 ⊢; exact ends_at_of e2 rfl⟩

/-- What lies where while a track is copied. -/
structure CW (w wr : World) (xp xj pv jv : Value) : Prop where
  x0 : wr.cell? ⟨w.heap.size, 0, none⟩ = some xp
  x1 : wr.cell? ⟨w.heap.size, 1, none⟩ = some xj
  r0 : wr.cell? ⟨w.heap.size + 1, 0, none⟩ = some (.slice none 0 0)
  r1 : wr.cell? ⟨w.heap.size + 1, 1, none⟩ = some (.slice none 0 0)
  rf0 : wr.frozen? ⟨w.heap.size + 1, 0, none⟩ = false
  rf1 : wr.frozen? ⟨w.heap.size + 1, 1, none⟩ = false
  n0 : wr.cell? ⟨w.heap.size + 1 + 1, 0, none⟩ = some pv
  n1 : wr.cell? ⟨w.heap.size + 1 + 1, 1, none⟩ = some jv
  nf0 : wr.frozen? ⟨w.heap.size + 1 + 1, 0, none⟩ = false
  nf1 : wr.frozen? ⟨w.heap.size + 1 + 1, 1, none⟩ = false
  bel : Below w.heap.size w wr
section
variable {w wr w2 : World} {xp xj pv jv : Value}
theorem CW.size (h : CW w wr xp xj pv jv) : w.heap.size + 3 ≤ wr.heap.size := cell_lt h.n0
theorem CW.mid {B C : Nat} (h : CW w wr xp xj pv jv) (hm : Mid B C wr w2) (hB : w.heap.size + 3 ≤ B) : CW w w2 xp xj pv jv where
  x0 := hm.cell (.inl (by omega)) h.x0
  x1 := hm.cell (.inl (by omega)) h.x1
  r0 := hm.cell (.inl (by omega)) h.r0
  r1 := hm.cell (.inl (by omega)) h.r1
  rf0 := hm.frozen (.inl (by omega)) h.r0 h.rf0
  rf1 := hm.frozen (.inl (by omega)) h.r1 h.rf1
  n0 := hm.cell (.inl (by omega)) h.n0
  n1 := hm.cell (.inl (by omega)) h.n1
  nf0 := hm.frozen (.inl (by omega)) h.n0 h.nf0
  nf1 := hm.frozen (.inl (by omega)) h.n1 h.nf1
  bel := ⟨hm.os.trans h.bel.os, hm.tape.trans h.bel.tape, hm.output.trans h.bel.output, Nat.le_trans h.bel.size hm.size, fun k hk => (hm.block k (by have := h.bel.size; omega) (.inl (by omega))).trans (h.bel.block k hk)⟩
theorem CW.later (h : CW w wr xp xj pv jv) (hb : Below wr.heap.size wr w2) : CW w w2 xp xj pv jv := h.mid (Mid.of_below (B := w.heap.size + 3) (C := w.heap.size + 3) hb) (Nat.le_refl _)
theorem CW.grown {row : Option Nat} (h : CW w wr xp xj pv jv) (hg : wr.grownBy w2 row) (hrow : ∀ g, row = some g → w.heap.size + 3 ≤ g) : CW w w2 xp xj pv jv := by
  have hne : ∀ B, B < w.heap.size + 3 → some B ≠ row := fun B hB e => by have := hrow B e.symm; omega
  have hc : ∀ (B o : Nat) (v : Value), B < w.heap.size + 3 → wr.cell? ⟨B, o, none⟩ = some v → w2.cell? ⟨B, o, none⟩ = some v := fun B o v hB hv => hg.cell hv (hne B hB)
  have hf : ∀ (B o : Nat) (v : Value), B < w.heap.size + 3 → wr.cell? ⟨B, o, none⟩ = some v → wr.frozen? ⟨B, o, none⟩ = false → w2.frozen? ⟨B, o, none⟩ = false := fun B o v hB hv hz => by
    rw [hg.frozen_far ⟨B, o, none⟩ (cell_lt hv) (hne B hB)]; exact hz
  exact { x0 := hc _ _ _ (by omega) h.x0
          x1 := hc _ _ _ (by omega) h.x1
          r0 := hc _ _ _ (by omega) h.r0
          r1 := hc _ _ _ (by omega) h.r1
          rf0 := hf _ _ _ (by omega) h.r0 h.rf0
          rf1 := hf _ _ _ (by omega) h.r1 h.rf1
          n0 := hc _ _ _ (by omega) h.n0
          n1 := hc _ _ _ (by omega) h.n1
          nf0 := hf _ _ _ (by omega) h.n0 h.nf0
          nf1 := hf _ _ _ (by omega) h.n1 h.nf1
          bel := ⟨hg.os.trans h.bel.os, hg.tape.trans h.bel.tape, hg.output.trans h.bel.output, Nat.le_trans h.bel.size hg.size, fun k hk => (hg.block k (by have := h.bel.size; omega) (hne k (by omega))).trans (h.bel.block k hk)⟩ }
theorem CW.set0 (h : CW w wr xp xj pv jv) (v : Value) : CW w (wr.setCell ⟨w.heap.size + 1 + 1, 0, none⟩ v) xp xj v jv := by
  obtain ⟨x0, x1, r0, r1, rf0, rf1, n0, n1, nf0, nf1, bel⟩ := h
  exact { x0 := by simp [go_sem, x0], x1 := by simp [go_sem, x1], r0 := by simp [go_sem, r0], r1 := by simp [go_sem, r1], rf0 := by simp [go_sem, rf0], rf1 := by simp [go_sem, rf1], n0 := by simp [go_sem, n0], n1 := by simp [go_sem, n1], nf0 := by simp [go_sem, nf0], nf1 := by simp [go_sem, nf1], bel := bel.setCell (by simp; omega) _ }
theorem CW.set1 (h : CW w wr xp xj pv jv) (v : Value) : CW w (wr.setCell ⟨w.heap.size + 1 + 1, 1, none⟩ v) xp xj pv v := by
  obtain ⟨x0, x1, r0, r1, rf0, rf1, n0, n1, nf0, nf1, bel⟩ := h
  exact { x0 := by simp [go_sem, x0], x1 := by simp [go_sem, x1], r0 := by simp [go_sem, r0], r1 := by simp [go_sem, r1], rf0 := by simp [go_sem, rf0], rf1 := by simp [go_sem, rf1], n0 := by simp [go_sem, n0], n1 := by simp [go_sem, n1], nf0 := by simp [go_sem, nf0], nf1 := by simp [go_sem, nf1], bel := bel.setCell (by simp; omega) _ }
end

theorem owns_mono {w : World} {base base' : Nat} {e : TypeId} {size : Nat} {v : Value} {n : Nat} {xs : List Value} (h : w.ownsRow base e size v n xs) (hb : base' ≤ base) : w.ownsRow base' e size v n xs := by
  refine ⟨h.1, ?_⟩
  rcases h.2 with h | ⟨g, cap, cur, rfl, hbg, rest⟩
  · exact .inl h
  · exact .inr ⟨g, cap, cur, rfl, by omega, rest⟩
/-- Between two ends of a joint that is copied. -/
def L5E (bj : Nat) (kd : Int) (nm : ByteArray) (W5 wx : World) (es : List (Int × Int)) (i : Value) : Prop :=
  ∃ (x : Nat) (v : Value), x ≤ es.length ∧ i = .int .i64 x ∧ Mid bj (bj + 1) W5 wx ∧ (wx.cell? ⟨bj, 0, none⟩ = some (.int .i64 kd) ∧ wx.cell? ⟨bj, 1, none⟩ = some (.string nm) ∧ wx.cell? ⟨bj, 2, none⟩ = some v) ∧ (∀ o, wx.frozen? ⟨bj, o, none⟩ = false) ∧ wx.ownsRow (bj + 1) 59 2 v x (endCells (es.take x))
/-- Between two joints of a copy. -/
def L6E (w wx : World) (xp xj pv : Value) (N : Nt) (i : Value) : Prop :=
  ∃ (k : Nat) (jv : Value) (js : List Jr), k ≤ N.jts.length ∧ i = .int .i64 k ∧ js.map (·.jt) = N.jts.take k ∧ CW w wx xp xj pv jv ∧ wx.ownsRow (w.heap.size + 3) 41 4 pv N.pcs.length (pcCells N.pcs) ∧ KR wx (w.heap.size + 3) jv js

/-- What l5copy answers. -/
def CopyPost (N : Nt) (w : World) (e : Ending) (w' : World) : Prop :=
  ∃ (pa ja : Option Addr) (pcap jcap : Nat) (js : List Jr), js.map (·.jt) = N.jts ∧ e = .returned (.agg #[.slice pa N.pcs.length pcap, .slice ja N.jts.length jcap]) ∧ w'.ownsRow (w.heap.size + 3) 41 4 (.slice pa N.pcs.length pcap) N.pcs.length (pcCells N.pcs) ∧ KR w' (w.heap.size + 3) (.slice ja N.jts.length jcap) js ∧ Below w.heap.size w w'

set_option maxRecDepth 20000 in
theorem l5copy_any (a a' : Option Addr) (N : Nt) (cap cap' : Nat) (w : World) (hn : N.pcs.length ≤ 1000) (hl : N.jts.length ≤ 1000) (hje : ∀ j ∈ N.jts, 0 < j.ends.length ∧ j.ends.length ≤ 1000) (hp : PcsAt w a N.pcs) (hj : JtsAt w a' N.jts) :
    Calls Try.prog 25 #[.agg #[.slice a N.pcs.length cap, .slice a' N.jts.length cap']] w fun e w' => CopyPost N w e w' := by
  obtain ⟨iP, hiP, zP0, zP1, zP2⟩ := infos info_Piece
  obtain ⟨iE, hiE, zE0, zE1, zE2⟩ := infos info_End
  obtain ⟨iJ, hiJ, zJ0, zJ1, zJ2⟩ := infos info_Joint
  have HIP := hide hiP
  have HZP0 := hide zP0
  have HZP1 := hide zP1
  have HZP2 := hide zP2
  have HIE := hide hiE
  have HZE0 := hide zE0
  have HZE1 := hide zE1
  have HZE2 := hide zE2
  have HIJ := hide hiJ
  have HZJ0 := hide zJ0
  have HZJ1 := hide zJ1
  have HZJ2 := hide zJ2
  have HP := hide hp
  have HJ := hide hj
  have HJE := hide hje
  clear hiP zP0 zP1 zP2 hiE zE0 zE1 zE2 hiJ zJ0 zJ1 zJ2 hp hj hje
  go_enter Try.func25, Try.ntmps25
  go_wp2_with fail
  go_loopw [5, 14] (fun _ i wr => ∃ (k : Nat) (pv : Value), k ≤ N.pcs.length ∧ i = .int .i64 k ∧ Hid (CW w wr (.slice a N.pcs.length cap) (.slice a' N.jts.length cap') pv (.slice none 0 0)) ∧ Hid (wr.ownsRow (w.heap.size + 3) 41 4 pv k (pcCells (N.pcs.take k)))) (fun _ i _ => N.pcs.length - (intOf i).toNat)
  case atStart =>
    refine ⟨0, .slice none 0 0, Nat.zero_le _, rfl, ?_, World.ownsRow_nil _ _ _ _⟩
    exact ⟨by simp [go_sem], by simp [go_sem], by simp [go_sem], by simp [go_sem], by simp [go_sem], by simp [go_sem], by simp [go_sem], by simp [go_sem], by simp [go_sem], by simp [go_sem], (((Below.refl _ _).alloc (Nat.le_refl _) _).alloc (by simp) _).alloc (by simp; omega) _⟩
  case round =>
    obtain ⟨k, pv, hk, rfl, HC, HPR⟩ := hrel
    by_cases hlt : k < N.pcs.length
    · obtain ⟨b, off, rfl, c0, c1, c2, c3⟩ := (HP.out.later HC.out.bel) k hlt
      have hblt := cell_lt c0
      have n0 := HC.out.n0
      have nf0 := HC.out.nf0
      have hz := HC.out.size
      have hki : (k : Int) < (N.pcs.length : Int) := by omega
      have HTK := hide (show N.pcs.take (k + 1) = N.pcs.take k ++ [N.pcs[k]] from List.take_succ_eq_append_getElem hlt)
      generalize N.pcs[k] = p at c0 c1 c2 c3 HTK
      have hml : k + 1 ≤ maxLen := by unfold maxLen; omega
      go_upto_region 5 with fail
      have HC1 := hide (HC.out.later ((Below.refl wr.heap.size wr).alloc (Nat.le_refl _) (.cells #[.string p.name, .int .i64 p.len, .int .i64 p.speed, .int .i64 p.brake] 41)))
      have HPR1 := hide (HPR.out.alloc (.cells #[.string p.name, .int .i64 p.len, .int .i64 p.speed, .int .i64 p.brake] 41))
      have n0 := HC1.out.n0
      have nf0 := HC1.out.nf0
      have q0 := new_cell wr #[.string p.name, .int .i64 p.len, .int .i64 p.speed, .int .i64 p.brake] 41 0 _ rfl
      have q1 := new_cell wr #[.string p.name, .int .i64 p.len, .int .i64 p.speed, .int .i64 p.brake] 41 1 _ rfl
      have q2 := new_cell wr #[.string p.name, .int .i64 p.len, .int .i64 p.speed, .int .i64 p.brake] 41 2 _ rfl
      have q3 := new_cell wr #[.string p.name, .int .i64 p.len, .int .i64 p.speed, .int .i64 p.brake] 41 3 _ rfl
      have hz1 : wr.heap.size < (wr.alloc (.cells #[.string p.name, .int .i64 p.len, .int .i64 p.speed, .int .i64 p.brake] 41)).heap.size := by simp
      clear c0 c1 c2 c3
      generalize wr.alloc (.cells #[.string p.name, .int .i64 p.len, .int .i64 p.speed, .int .i64 p.brake] 41) = W1 at *
      have hlW := cell_lt n0
      go_wp2_with (first
        | (at_builtin; (refine wpList_append_lies _ rfl _ _ _ rfl (w.heap.size + 3) 41 iP _ 4 40 Try.underlying23 HIP.out HZP0.out HZP1.out HZP2.out rfl (by omega) pv k (pcCells (N.pcs.take k)) rfl (HPR1.out.alloc _) ⟨_, 0, none⟩ 1 1 [.string p.name, .int .i64 p.len, .int .i64 p.speed, .int .i64 p.brake] rfl rfl (news_at rfl) (by simp [Value.oneCell']) (by omega) hml (by omega) (by simp; omega) _ rfl ?_); intro g2 cp2 w7 hown2 hgrow2 _ _; have HLT := hide (fun g h => (HPR.out.lt g h).1); have HC7 := hide ((HC1.out.later ((Below.refl _ _).alloc (Nat.le_refl _) _)).grown hgrow2 HLT.out); have n7 := HC7.out.n0; have nf7 := HC7.out.nf0))
      all_goals
        refine ⟨⟨k + 1, .slice (some ⟨g2, 0, none⟩) (k + 1) cp2, by omega, by go_num, HC7.out.set0 _, ?_⟩, by simp [intOf]; omega⟩
        show World.ownsRow _ _ _ _ _ _ _
        rw [HTK.out, pcCells_add]
        exact ownsRow_setCell_below hown2 (by show w.heap.size + 2 < w.heap.size + 3; omega) _
    · have hke : k = N.pcs.length := by omega
      subst hke
      have HPW := hide (show wr.ownsRow (w.heap.size + 3) 41 4 pv N.pcs.length (pcCells N.pcs) by
        have h := HPR.out
        rw [List.take_length] at h
        exact h)
      clear HPR hlt
      have x1 := HC.out.x1
      have hkf : decide ((N.pcs.length : Int) < (N.pcs.length : Int)) = false := by rw [decide_eq_false_iff_not]; omega
      go_wp2_with fail
      go_loopw [7, 8, 10, 28] (fun _ _ _ i wx => L6E w wx (.slice a N.pcs.length cap) (.slice a' N.jts.length cap') pv N i) (fun _ _ _ i _ => N.jts.length - (intOf i).toNat)
      case atStart => exact ⟨0, .slice none 0 0, [], Nat.zero_le _, rfl, rfl, HC.out, HPW.out, KR.nil _ _⟩
      case round =>
        clear HC HPW x1
        obtain ⟨k, jv, js, hk, rfl, hmap, hC, hPW, hKR⟩ := hrel
        have HMAP := hide hmap
        have HC := hide hC
        have HPW := hide hPW
        have HKR := hide hKR
        clear hmap hC hPW hKR
        have hjsl : js.length = k := by
          have := congrArg List.length HMAP.out
          simp at this
          omega
        by_cases hlt : k < N.jts.length
        · obtain ⟨b, off, ea, ecap, rfl, c0, c1, c2, hE⟩ := (HJ.out.later HC.out.bel) k hlt
          have HE := hide hE
          clear hE
          have hblt := cell_lt c0
          have hki : (k : Int) < (N.jts.length : Int) := by omega
          have hje := HJE.out N.jts[k] (List.getElem_mem hlt)
          have HTK := hide (show N.jts.take (k + 1) = N.jts.take k ++ [N.jts[k]] from List.take_succ_eq_append_getElem hlt)
          generalize N.jts[k] = j at c0 c1 c2 HE hje HTK
          obtain ⟨kd, nm, es⟩ := j
          dsimp only at c0 c1 c2 HE hje
          go_upto_region 10 with fail
          have hb1 : Below wr.heap.size wr (wr.alloc (.cells #[.int .i64 kd, .string nm, .slice ea es.length ecap] 53)) := (Below.refl wr.heap.size wr).alloc (Nat.le_refl _) _
          have q0 := new_cell wr #[.int .i64 kd, .string nm, .slice ea es.length ecap] 53 0 _ rfl
          have q1 := new_cell wr #[.int .i64 kd, .string nm, .slice ea es.length ecap] 53 1 _ rfl
          have q2 := new_cell wr #[.int .i64 kd, .string nm, .slice ea es.length ecap] 53 2 _ rfl
          have hz1 : (wr.alloc (.cells #[.int .i64 kd, .string nm, .slice ea es.length ecap] 53)).heap.size = wr.heap.size + 1 := by simp
          clear c0 c1 c2
          generalize wr.alloc (.cells #[.int .i64 kd, .string nm, .slice ea es.length ecap] 53) = W1 at *
          have hlq := cell_lt q0
          go_upto_region 11 with fail
          have hb5 : Below wr.heap.size wr (W1.alloc (.cells #[.int .i64 kd, .string nm, .slice none 0 0] 53)) := hb1.alloc (by omega) _
          have j0 := new_cell W1 #[.int .i64 kd, .string nm, .slice none 0 0] 53 0 _ rfl
          have j1 := new_cell W1 #[.int .i64 kd, .string nm, .slice none 0 0] 53 1 _ rfl
          have j2 := new_cell W1 #[.int .i64 kd, .string nm, .slice none 0 0] 53 2 _ rfl
          have jf : ∀ o, (W1.alloc (.cells #[.int .i64 kd, .string nm, .slice none 0 0] 53)).frozen? ⟨W1.heap.size, o, none⟩ = false := fun o => by simp [go_sem]
          rw [hz1] at j0 j1 j2
          simp only [hz1] at jf
          have HJF := hide jf
          have hz5 : (W1.alloc (.cells #[.int .i64 kd, .string nm, .slice none 0 0] 53)).heap.size = W1.heap.size + 1 := by simp
          have q0 := cell_later' ((Below.refl W1.heap.size W1).alloc (Nat.le_refl _) (.cells #[.int .i64 kd, .string nm, .slice none 0 0] 53)) q0
          have q2 := cell_later' ((Below.refl W1.heap.size W1).alloc (Nat.le_refl _) (.cells #[.int .i64 kd, .string nm, .slice none 0 0] 53)) q2
          have HC5 := hide (HC.out.later hb5)
          have HPW5 := hide (owns_later' HPW.out hb5)
          have HKR5 := hide (HKR.out.later hb5)
          have HKL := hide HKR.out.low
          have HPL := hide (fun g' (h : pv.ownBlock = some g') => (HPW.out.lt g' h).2)
          have HE5 := hide (HE.out.later hb5)
          have HEB := hide (show ∀ x (hx : x < es.length), ∃ xb xo, ea = some ⟨xb, xo, none⟩ ∧ xb < wr.heap.size from fun x hx => by
            obtain ⟨xb, xo, h1, h2, _⟩ := HE.out x hx
            exact ⟨xb, xo, h1, cell_lt h2⟩)
          have hwz0 := HC.out.size
          clear jf hb1 hb5 HC HPW HKR HE
          generalize W1.alloc (.cells #[.int .i64 kd, .string nm, .slice none 0 0] 53) = W5 at *
          have hwz := HC5.out.size
          generalize hbj : wr.heap.size + 1 = bj at *
          go_wp2_with fail
          go_loopw [10, 40] (fun _ i wx => L5E bj kd nm W5 wx es i) (fun _ i _ => es.length - (intOf i).toNat)
          case atStart => exact ⟨0, .slice none 0 0, Nat.zero_le _, rfl, Mid.refl _ _ _, ⟨j0, j1, j2⟩, HJF.out, World.ownsRow_nil _ _ _ _⟩
          case round =>
            obtain ⟨x, v, hx, rfl, hMD, ⟨k0, k1, k2⟩, hFZ, hOW⟩ := hrel
            have HMD := hide hMD
            have HFZ := hide hFZ
            have HOW := hide hOW
            clear hMD hFZ hOW
            have hbjl := cell_lt k0
            by_cases hxe : x < es.length
            · obtain ⟨xb, xo, hxa, e0, e1⟩ := HE5.out x hxe
              obtain ⟨xb', xo', hxa', hxl⟩ := HEB.out x hxe
              obtain ⟨rfl, rfl⟩ : xb = xb' ∧ xo = xo' := by rw [hxa] at hxa'; simpa using hxa'
              subst hxa
              have e0 := HMD.out.cell (.inl (by omega)) e0
              have e1 := HMD.out.cell (.inl (by omega)) e1
              have hxi : (x : Int) < (es.length : Int) := by omega
              have hglx := cell_lt e0
              have HTX := hide (show es.take (x + 1) = es.take x ++ [es[x]] from List.take_succ_eq_append_getElem hxe)
              generalize es[x] = ex at e0 e1 HTX
              clear hxa'
              have hml : x + 1 ≤ maxLen := by unfold maxLen; omega
              have HLT := hide (fun g h => (HOW.out.lt g h).1)
              have HNE := hide (show some bj ≠ v.ownBlock from fun e => by have := HLT.out bj e.symm; omega)
              go_upto_region 14 with fail
              have hb2 : Below wr.heap.size wr (wr.alloc (.cells #[.int .i64 ex.1, .int .i64 ex.2] 59)) := (Below.refl wr.heap.size wr).alloc (Nat.le_refl _) _
              have p0 := new_cell wr #[.int .i64 ex.1, .int .i64 ex.2] 59 0 _ rfl
              have p1 := new_cell wr #[.int .i64 ex.1, .int .i64 ex.2] 59 1 _ rfl
              have k0 := cell_later' hb2 k0
              have k1 := cell_later' hb2 k1
              have k2 := cell_later' hb2 k2
              have HFZ2 := hide (show ∀ o, (wr.alloc (.cells #[.int .i64 ex.1, .int .i64 ex.2] 59)).frozen? ⟨bj, o, none⟩ = false from fun o => (hb2.frozen (p := ⟨bj, o, none⟩) hbjl).trans (HFZ.out o))
              have HOW2 := hide (HOW.out.alloc (.cells #[.int .i64 ex.1, .int .i64 ex.2] 59))
              have HMD2 := hide (HMD.out.trans (Mid.of_below hb2))
              have fz2 := HFZ2.out 2
              clear e0 e1 hb2 HFZ HOW HMD
              generalize wr.alloc (.cells #[.int .i64 ex.1, .int .i64 ex.2] 59) = W2 at *
              have hbj2 := cell_lt k0
              have hp2 := cell_lt p0
              go_wp2_with (first
                | (at_builtin; (refine wpList_append_lies _ rfl _ _ _ rfl (bj + 1) 59 iE _ 2 16 Try.underlying51 HIE.out HZE0.out HZE1.out HZE2.out rfl (by omega) v x (endCells (es.take x)) rfl (HOW2.out.alloc _) ⟨_, 0, none⟩ 1 1 [.int .i64 ex.1, .int .i64 ex.2] rfl rfl (news_at rfl) (by simp [Value.oneCell']) (by omega) hml (by omega) (by simp; omega) _ rfl ?_); intro g2 cp2 w7 hown2 hgrow2 _ _; have m2 := hgrow2.cell (cell_later' ((Below.refl W2.heap.size W2).alloc (Nat.le_refl _) _) k2) HNE.out; have mf2 := (hgrow2.frozen_far ⟨bj, 2, none⟩ (by show bj < _; simp; omega) HNE.out).trans (frozen_later ((Below.refl W2.heap.size W2).alloc (Nat.le_refl _) _) k2 fz2)))
              all_goals
                refine ⟨⟨x + 1, .slice (some ⟨g2, 0, none⟩) (x + 1) cp2, by omega, by go_num, ?_, ⟨?_, ?_, ?_⟩, ?_, ?_⟩, by simp [intOf]; omega⟩
                · exact ((HMD2.out.trans (Mid.of_below ((Below.refl W2.heap.size W2).alloc (Nat.le_refl _) _))).grown hgrow2 (fun g e => by have := HLT.out g e; omega)).setCell (Nat.le_refl _) (by omega) _
                · have := hgrow2.cell (cell_later' ((Below.refl W2.heap.size W2).alloc (Nat.le_refl _) _) k0) HNE.out
                  simp [go_sem, this]
                · have := hgrow2.cell (cell_later' ((Below.refl W2.heap.size W2).alloc (Nat.le_refl _) _) k1) HNE.out
                  simp [go_sem, this]
                · simp [go_sem, m2]
                · intro o
                  have := (hgrow2.frozen_far ⟨bj, o, none⟩ (by show bj < _; simp; omega) HNE.out).trans ((((Below.refl W2.heap.size W2).alloc (Nat.le_refl _) _).frozen (p := ⟨bj, o, none⟩) hbj2).trans (HFZ2.out o))
                  simp [go_sem, this]
                · rw [HTX.out, endCells_add1]
                  exact ownsRow_setCell_below hown2 (by show bj < bj + 1; omega) _
            · have hxx : x = es.length := by omega
              subst hxx
              obtain ⟨eb, ec, hv, heb1, heb2⟩ := HOW.out.form (by omega)
              subst hv
              have hxk : decide ((es.length : Int) < (es.length : Int)) = false := by rw [decide_eq_false_iff_not]; omega
              have HC6 := hide (HC5.out.mid HMD.out (by omega))
              have HPW6 := hide (owns_midUp HPW5.out HMD.out (fun g h => by have := HPL.out g h; omega))
              have HKL6 := hide (show KLow bj jv js from ⟨fun g h => by have := HKL.out.1 g h; omega, fun t ht eb he => by have := HKL.out.2 t ht eb he; omega⟩)
              have HKR6 := hide (HKR5.out.midUp HMD.out HKL6.out)
              have HOE := hide (show wr.ownsRow (w.heap.size + 3) 59 2 (.slice (some ⟨eb, 0, none⟩) es.length ec) es.length (endCells es) by
                have h := HOW.out
                rw [List.take_length] at h
                exact owns_mono h (by omega))
              have n1 := HC6.out.n1
              have nf1 := HC6.out.nf1
              have hn1l := cell_lt n1
              have hml3 : js.length + 1 ≤ maxLen := by unfold maxLen; omega
              clear HC5 HPW5 HKR5 HOW HJF j0 j1 j2 q0 q2
              go_wp2_with (first
                | (at_builtin; (refine wpList_append_lies _ rfl _ _ _ rfl (w.heap.size + 3) 53 iJ _ 3 48 Try.underlying24 HIJ.out HZJ0.out HZJ1.out HZJ2.out rfl (by omega) jv js.length (jtCells js) rfl (HKR6.out.own.alloc _) ⟨_, 0, none⟩ 1 1 [.int .i64 kd, .string nm, .slice (some ⟨eb, 0, none⟩) es.length ec] rfl rfl (news_at rfl) (by simp [Value.oneCell']) (by omega) hml3 (by omega) (by simp; omega) _ rfl ?_); intro g3 cp3 w9 hown3 hgrow3 _ _; have HLT3 := hide (fun g h => (HKR6.out.own.lt g h).1); have HC9 := hide ((HC6.out.later ((Below.refl _ _).alloc (Nat.le_refl _) _)).grown hgrow3 HLT3.out); have p1 := HC9.out.n1; have pf1 := HC9.out.nf1; have hp1l := cell_lt p1))
              all_goals
                refine ⟨⟨k + 1, .slice (some ⟨g3, 0, none⟩) (k + 1) cp3, js ++ [⟨⟨kd, nm, es⟩, some ⟨eb, 0, none⟩, ec⟩], by omega, by go_num, ?_, HC9.out.set1 _, ?_, ?_⟩, by simp [intOf]; omega⟩
                · rw [List.map_append, HMAP.out, HTK.out]; rfl
                · exact ownsRow_setCell_below (owns_kept (HPW6.out.alloc _) (HKR6.out.own.alloc _) (by decide) hgrow3) (by show w.heap.size + 2 < w.heap.size + 3; omega) _
                · exact (KR.add (t := ⟨⟨kd, nm, es⟩, some ⟨eb, 0, none⟩, ec⟩) (HKR6.out.later ((Below.refl wr.heap.size wr).alloc (Nat.le_refl _) _)) hgrow3 (by rw [hjsl] at hown3 ⊢; exact hown3) rfl (HOE.out.alloc _) HKL6.out (by omega)).setBelow (by omega) _
        · have hke : k = N.jts.length := by omega
          subst hke
          obtain ⟨pa, pcap, hpv, _⟩ := pcs_at_of HPW.out
          obtain ⟨ja, jcap, hjv, _⟩ := kjts_at_of HKR.out
          subst hpv
          rw [hjsl] at hjv
          subst hjv
          have r0 := HC.out.r0
          have r1 := HC.out.r1
          have rf0 := HC.out.rf0
          have rf1 := HC.out.rf1
          have n0 := HC.out.n0
          have n1 := HC.out.n1
          have hkf2 : decide ((N.jts.length : Int) < (N.jts.length : Int)) = false := by rw [decide_eq_false_iff_not]; omega
          have HB9 := hide (show Below w.heap.size w ((wr.setCell ⟨w.heap.size + 1, 0, none⟩ (.slice pa N.pcs.length pcap)).setCell ⟨w.heap.size + 1, 1, none⟩ (.slice ja N.jts.length jcap)) from (HC.out.bel.setCell (by simp) _).setCell (by simp) _)
          have HPR9 := hide (ownsRow_setCell_below (ownsRow_setCell_below HPW.out (a := (⟨w.heap.size + 1, 0, none⟩ : Addr)) (by show w.heap.size + 1 < w.heap.size + 3; omega) (.slice pa N.pcs.length pcap)) (a := (⟨w.heap.size + 1, 1, none⟩ : Addr)) (by show w.heap.size + 1 < w.heap.size + 3; omega) (.slice ja N.jts.length jcap))
          have HKR9 := hide ((HKR.out.setBelow (B := w.heap.size + 1) (o := 0) (by omega) (.slice pa N.pcs.length pcap)).setBelow (B := w.heap.size + 1) (o := 1) (by omega) (.slice ja N.jts.length jcap))
          have HMP := hide (show js.map (·.jt) = N.jts by rw [HMAP.out, List.take_length])
          go_wp2_with fail
          refine bodyPost_ret (v := .agg #[.slice pa N.pcs.length pcap, .slice ja N.jts.length jcap]) (by simp [results, Try.results25, go_sem, r0, r1]) rfl ?_
          exact ⟨pa, ja, pcap, jcap, js, HMP.out, rfl, HPR9.out, HKR9.out, HB9.out⟩
end Go.Proofs.Yteapmddadieohaa

/- spec.Flipped: a copy with one piece laid the other way round. Own work. -/
namespace Go.Proofs.Yteapmddadieohaa
open Go.RowKit
set_option maxHeartbeats 8000000

/-! ### Plain -/
def flipR (k : Int) (r : Jr) : Jr := ⟨flipJ k r.jt, r.ad, r.cap⟩
def flT (k : Int) (js : List Jr) (t : Nat) : List Jr := (js.take t).map (flipR k) ++ js.drop t
def flE (k : Int) (es : List (Int × Int)) (x : Nat) : List (Int × Int) := (es.take x).map (flipE k) ++ es.drop x
theorem flE_len (k : Int) (es : List (Int × Int)) (x : Nat) : (flE k es x).length = es.length := by simp [flE]; omega
theorem flT_len (k : Int) (js : List Jr) (t : Nat) : (flT k js t).length = js.length := by simp [flT]; omega
theorem flE_0 (k : Int) (es : List (Int × Int)) : flE k es 0 = es := by simp [flE]
theorem flE_end (k : Int) (es : List (Int × Int)) : flE k es es.length = es.map (flipE k) := by simp [flE]
theorem flE_at (k : Int) (es : List (Int × Int)) (x : Nat) (hx : x < es.length) (hx' : x < (flE k es x).length) : (flE k es x)[x] = es[x] := by
  have h : (flE k es x)[x]? = some es[x] := by
    unfold flE
    rw [List.getElem?_append_right (by simp; omega), List.getElem?_drop]
    have e : x + (x - (List.map (flipE k) (List.take x es)).length) = x := by simp; omega
    rw [e]
    exact List.getElem?_eq_getElem hx
  exact (List.getElem?_eq_some_iff.1 h).2
theorem flE_step (k : Int) (es : List (Int × Int)) (x : Nat) (hx : x < es.length) : (flE k es x).set x (flipE k es[x]) = flE k es (x + 1) := by
  unfold flE
  rw [List.take_succ_eq_append_getElem hx, List.map_append, List.drop_eq_getElem_cons hx, List.set_append_right _ _ (by simp; omega)]
  have : x - (List.map (flipE k) (List.take x es)).length = 0 := by simp; omega
  rw [this, List.append_assoc]
  rfl
theorem flT_0 (k : Int) (js : List Jr) : flT k js 0 = js := by simp [flT]
theorem flT_end (k : Int) (js : List Jr) : flT k js js.length = js.map (flipR k) := by simp [flT]
theorem flT_at (k : Int) (js : List Jr) (x : Nat) (hx : x < js.length) (hx' : x < (flT k js x).length) : (flT k js x)[x] = js[x] := by
  have h : (flT k js x)[x]? = some js[x] := by
    unfold flT
    rw [List.getElem?_append_right (by simp; omega), List.getElem?_drop]
    have e : x + (x - (List.map (flipR k) (List.take x js)).length) = x := by simp; omega
    rw [e]
    exact List.getElem?_eq_getElem hx
  exact (List.getElem?_eq_some_iff.1 h).2
theorem flT_step (k : Int) (js : List Jr) (x : Nat) (hx : x < js.length) : (flT k js x).set x (flipR k js[x]) = flT k js (x + 1) := by
  unfold flT
  rw [List.take_succ_eq_append_getElem hx, List.map_append, List.drop_eq_getElem_cons hx, List.set_append_right _ _ (by simp; omega)]
  have : x - (List.map (flipR k) (List.take x js)).length = 0 := by simp; omega
  rw [this, List.append_assoc]
  rfl
theorem set_same {α : Type} {l : List α} {i : Nat} {v : α} (h : l[i]? = some v) : l.set i v = l := by
  obtain ⟨hi, rfl⟩ := List.getElem?_eq_some_iff.1 h
  exact List.set_getElem_self hi
theorem endCells_set1 (es : List (Int × Int)) (x : Nat) (hx : x < es.length) (y : Int) : (endCells es).set (x * 2 + 1) (.int .i64 y) = endCells (es.set x (es[x].1, y)) := by
  rw [← endCells_set es x hx es[x].1 y, set_same (endCells_at es x hx).1]
theorem jtCells_congr : ∀ {js ks : List Jr}, js.map (fun r => (r.jt.kind, r.jt.name, r.ad, r.jt.ends.length, r.cap)) = ks.map (fun r => (r.jt.kind, r.jt.name, r.ad, r.jt.ends.length, r.cap)) → jtCells js = jtCells ks
  | [], [], _ => rfl
  | [], _ :: _, h => by simp at h
  | _ :: _, [], h => by simp at h
  | a :: js, b :: ks, h => by
    simp only [List.map_cons, List.cons.injEq, Prod.mk.injEq] at h
    obtain ⟨⟨h1, h2, h3, h4, h5⟩, h6⟩ := h
    have e : ∀ (a : Jr) (js : List Jr), jtCells (a :: js) = [.int .i64 a.jt.kind, .string a.jt.name, .slice a.ad a.jt.ends.length a.cap] ++ jtCells js := fun _ _ => rfl
    rw [e, e, h1, h2, h3, h4, h5, jtCells_congr h6]
/-- One end's side is written. -/
theorem KR.put {w : World} {base eb : Nat} {jv : Value} {js : List Jr} (h : KR w base jv js) {t x : Nat} (ht : t < js.length) (hx : x < js[t].jt.ends.length) (he : js[t].ad = some ⟨eb, 0, none⟩) (y : Int) :
    KR (w.setCell ⟨eb, x * 2 + 1, none⟩ (.int .i64 y)) base jv (js.set t ⟨⟨js[t].jt.kind, js[t].jt.name, js[t].jt.ends.set x (js[t].jt.ends[x].1, y)⟩, js[t].ad, js[t].cap⟩) := by
  have hown := (h.ends js[t] (List.getElem_mem ht))
  obtain ⟨eb', h1, h2⟩ := hown
  obtain rfl : eb = eb' := by rw [he] at h1; simpa using h1
  have hmap : (js.set t ⟨⟨js[t].jt.kind, js[t].jt.name, js[t].jt.ends.set x (js[t].jt.ends[x].1, y)⟩, js[t].ad, js[t].cap⟩).map (fun r => (r.jt.kind, r.jt.name, r.ad, r.jt.ends.length, r.cap)) = js.map (fun r => (r.jt.kind, r.jt.name, r.ad, r.jt.ends.length, r.cap)) := by
    rw [List.map_set]
    refine set_same ?_
    rw [List.getElem?_map, List.getElem?_eq_getElem ht]
    simp
  have hne : jv.ownBlock ≠ some eb := by
    rcases owns_ne h.own h2 (by decide) with e | e
    · rw [e]; simp
    · rw [h1, own_slice] at e; exact e
  refine ⟨?_, ?_, ?_⟩
  · rw [jtCells_congr hmap, List.length_set]
    exact ownsRow_setCell_other h.own (a := (⟨eb, x * 2 + 1, none⟩ : Addr)) hne _
  · intro u hu
    obtain ⟨s, hs, rfl⟩ := List.getElem_of_mem hu
    have hs' : s < js.length := by simpa using hs
    by_cases hst : t = s
    · subst hst
      rw [List.getElem_set_self]
      refine ⟨eb, h1, ?_⟩
      dsimp only
      rw [List.length_set, ← endCells_set1 _ _ hx]
      rw [h1] at h2 ⊢
      exact (h2.stored _ _).1
    · rw [List.getElem_set_ne hst]
      obtain ⟨eb2, k1, k2⟩ := h.ends js[s] (List.getElem_mem hs')
      refine ⟨eb2, k1, ownsRow_setCell_other k2 (a := (⟨eb, x * 2 + 1, none⟩ : Addr)) (fun e => ?_) _⟩
      rw [k1, own_slice] at e
      obtain rfl : eb2 = eb := by simpa using e
      have hap := List.pairwise_iff_getElem.1 h.apart
      rcases Nat.lt_or_gt_of_ne hst with hlt | hgt
      · exact hap t s ht hs' hlt (h1.trans k1.symm)
      · exact hap s t hs' ht hgt (k1.trans h1.symm)
  · have e : (js.set t ⟨⟨js[t].jt.kind, js[t].jt.name, js[t].jt.ends.set x (js[t].jt.ends[x].1, y)⟩, js[t].ad, js[t].cap⟩).map (·.ad) = js.map (·.ad) := by
      rw [List.map_set]
      refine set_same ?_
      rw [List.getElem?_map, List.getElem?_eq_getElem ht]
      rfl
    have := h.apart
    have h3 : (js.map (·.ad)).Pairwise (· ≠ ·) := List.pairwise_map.2 this
    rw [← e] at h3
    exact List.pairwise_map.1 h3
end Go.Proofs.Yteapmddadieohaa

/- spec.Flipped's walk. Own work. -/
namespace Go.Proofs.Yteapmddadieohaa
open Go.RowKit
set_option maxHeartbeats 8000000
set_option linter.unusedSimpArgs false

structure FW (w wr : World) (pv jv : Value) : Prop where
  b0 : wr.cell? ⟨w.heap.size, 0, none⟩ = some pv
  b1 : wr.cell? ⟨w.heap.size, 1, none⟩ = some jv
  r0 : wr.cell? ⟨w.heap.size + 1, 0, none⟩ = some (.slice none 0 0)
  r1 : wr.cell? ⟨w.heap.size + 1, 1, none⟩ = some (.slice none 0 0)
  rf0 : wr.frozen? ⟨w.heap.size + 1, 0, none⟩ = false
  rf1 : wr.frozen? ⟨w.heap.size + 1, 1, none⟩ = false
  bel : Below w.heap.size w wr
theorem FW.later {w wr w2 : World} {pv jv : Value} (h : FW w wr pv jv) (hb : Below wr.heap.size wr w2) : FW w w2 pv jv :=
  ⟨cell_later' hb h.b0, cell_later' hb h.b1, cell_later' hb h.r0, cell_later' hb h.r1, frozen_later hb h.r0 h.rf0, frozen_later hb h.r1 h.rf1, h.bel.trans (hb.mono h.bel.size)⟩
theorem FW.setUp {w wr : World} {pv jv : Value} (h : FW w wr pv jv) {B o : Nat} (hB : w.heap.size + 2 ≤ B) (v : Value) : FW w (wr.setCell ⟨B, o, none⟩ v) pv jv := by
  have hb0 : (wr.setCell ⟨B, o, none⟩ v).heap[w.heap.size]? = wr.heap[w.heap.size]? := Below.heap_setCell _ _ _ _ (by show w.heap.size ≠ B; omega)
  have hb1 : (wr.setCell ⟨B, o, none⟩ v).heap[w.heap.size + 1]? = wr.heap[w.heap.size + 1]? := Below.heap_setCell _ _ _ _ (by show w.heap.size + 1 ≠ B; omega)
  exact ⟨by rw [World.cell?_of_block (a := ⟨w.heap.size, 0, none⟩) hb0]; exact h.b0, by rw [World.cell?_of_block (a := ⟨w.heap.size, 1, none⟩) hb0]; exact h.b1, by rw [World.cell?_of_block (a := ⟨w.heap.size + 1, 0, none⟩) hb1]; exact h.r0, by rw [World.cell?_of_block (a := ⟨w.heap.size + 1, 1, none⟩) hb1]; exact h.r1, by rw [World.frozen?_of_block (a := ⟨w.heap.size + 1, 0, none⟩) hb1]; exact h.rf0, by rw [World.frozen?_of_block (a := ⟨w.heap.size + 1, 1, none⟩) hb1]; exact h.rf1, h.bel.setCell (by show w.heap.size ≤ B; omega) _⟩

def L7E (w wx : World) (base n : Nat) (pv jv : Value) (pcs : List Pc) (js : List Jr) (k : Int) (i : Value) : Prop :=
  ∃ t : Nat, t ≤ js.length ∧ i = .int .i64 t ∧ FW w wx pv jv ∧ wx.ownsRow base 41 4 pv n (pcCells pcs) ∧ KR wx base jv (flT k js t)
def L8E (w wx : World) (base n : Nat) (pv jv : Value) (pcs : List Pc) (js : List Jr) (k : Int) (t : Nat) (r : Jr) (i : Value) : Prop :=
  ∃ x : Nat, x ≤ r.jt.ends.length ∧ i = .int .i64 x ∧ FW w wx pv jv ∧ wx.ownsRow base 41 4 pv n (pcCells pcs) ∧ KR wx base jv ((flT k js t).set t ⟨⟨r.jt.kind, r.jt.name, flE k r.jt.ends x⟩, r.ad, r.cap⟩)

set_option maxRecDepth 20000 in
theorem flipped_any (a a' : Option Addr) (N : Nt) (cap cap' : Nat) (k : Int) (w : World) (hn : N.pcs.length ≤ 1000) (hl : N.jts.length ≤ 1000) (hje : ∀ j ∈ N.jts, 0 < j.ends.length ∧ j.ends.length ≤ 1000) (hsd : ∀ j ∈ N.jts, ∀ e ∈ j.ends, e.2 = 0 ∨ e.2 = 1) (hp : PcsAt w a N.pcs) (hj : JtsAt w a' N.jts) :
    Calls Try.prog 16 #[.agg #[.slice a N.pcs.length cap, .slice a' N.jts.length cap'], .int .i64 k] w fun e w' =>
    ∃ (pa ja : Option Addr) (pcap jcap : Nat), e = .returned (.agg #[.slice pa N.pcs.length pcap, .slice ja N.jts.length jcap]) ∧ PcsAt w' pa N.pcs ∧ JtsAt w' ja (flipN k N).jts ∧ Below w.heap.size w w' := by
  have HP := hide hp
  have HJ := hide hj
  have HJE := hide hje
  have HSD := hide hsd
  clear hp hj hje hsd
  go_enter Try.func16, Try.ntmps16
  go_wp2_with fail
  have hb0 : Below w.heap.size w ((w.alloc (.cells #[.slice a N.pcs.length cap, .slice a' N.jts.length cap'] 26)).alloc (.cells #[.slice none 0 0, .slice none 0 0] 26)) := ((Below.refl _ _).alloc (Nat.le_refl _) _).alloc (by simp) _
  have HF0 := hide (show FW w ((w.alloc (.cells #[.slice a N.pcs.length cap, .slice a' N.jts.length cap'] 26)).alloc (.cells #[.slice none 0 0, .slice none 0 0] 26)) (.slice a N.pcs.length cap) (.slice a' N.jts.length cap') from ⟨by simp [go_sem], by simp [go_sem], by simp [go_sem], by simp [go_sem], by simp [go_sem], by simp [go_sem], hb0⟩)
  have bf0 : ((w.alloc (.cells #[.slice a N.pcs.length cap, .slice a' N.jts.length cap'] 26)).alloc (.cells #[.slice none 0 0, .slice none 0 0] 26)).frozen? ⟨w.heap.size, 0, none⟩ = false := by simp [go_sem]
  have bf1 : ((w.alloc (.cells #[.slice a N.pcs.length cap, .slice a' N.jts.length cap'] 26)).alloc (.cells #[.slice none 0 0, .slice none 0 0] 26)).frozen? ⟨w.heap.size, 1, none⟩ = false := by simp [go_sem]
  have hz0 : ((w.alloc (.cells #[.slice a N.pcs.length cap, .slice a' N.jts.length cap'] 26)).alloc (.cells #[.slice none 0 0, .slice none 0 0] 26)).heap.size = w.heap.size + 2 := by simp
  generalize (w.alloc (.cells #[.slice a N.pcs.length cap, .slice a' N.jts.length cap'] 26)).alloc (.cells #[.slice none 0 0, .slice none 0 0] 26) = W0 at *
  refine (l5copy_any a a' N cap cap' W0 hn hl HJE.out (HP.out.later hb0) (HJ.out.later hb0)).mono ?_
  rintro e w1 ⟨pa, ja, pcap, jcap, js, hmap, rfl, hPO, hKR, hb1⟩
  have HF1 := hide (HF0.out.later hb1)
  have b0 := HF1.out.b0
  have b1 := HF1.out.b1
  have bf0 := frozen_later hb1 HF0.out.b0 bf0
  have bf1 := frozen_later hb1 HF0.out.b1 bf1
  have HMAP := hide hmap
  have HPO := hide hPO
  have HKR := hide hKR
  clear hb1 hb0 hmap hPO hKR HF0
  generalize hbase : W0.heap.size + 3 = base at *
  have hbs : w.heap.size + 2 ≤ base := by omega
  have hjsl : js.length = N.jts.length := by have := congrArg List.length HMAP.out; simpa using this
  have HF2 := hide (show FW w ((w1.setCell ⟨w.heap.size, 0, none⟩ (.slice pa N.pcs.length pcap)).setCell ⟨w.heap.size, 1, none⟩ (.slice ja N.jts.length jcap)) (.slice pa N.pcs.length pcap) (.slice ja N.jts.length jcap) from by
    obtain ⟨b0, b1, r0, r1, rf0, rf1, bel⟩ := HF1.out
    exact ⟨by simp [go_sem, b0], by simp [go_sem, b1], by simp [go_sem, r0], by simp [go_sem, r1], by simp [go_sem, rf0], by simp [go_sem, rf1], (bel.setCell (by simp) _).setCell (by simp) _⟩)
  have HPO2 := hide (ownsRow_setCell_below (ownsRow_setCell_below HPO.out (a := (⟨w.heap.size, 0, none⟩ : Addr)) (by show w.heap.size < base; omega) (.slice pa N.pcs.length pcap)) (a := (⟨w.heap.size, 1, none⟩ : Addr)) (by show w.heap.size < base; omega) (.slice ja N.jts.length jcap))
  have HKR2 := hide ((HKR.out.setBelow (B := w.heap.size) (o := 0) (by omega) (.slice pa N.pcs.length pcap)).setBelow (B := w.heap.size) (o := 1) (by omega) (.slice ja N.jts.length jcap))
  clear HF1 HPO HKR
  go_upto_region 2 with fail
  generalize (w1.setCell ⟨w.heap.size, 0, none⟩ (.slice pa N.pcs.length pcap)).setCell ⟨w.heap.size, 1, none⟩ (.slice ja N.jts.length jcap) = w2 at *
  clear b0 b1 bf0 bf1
  have b1 := HF2.out.b1
  go_wp2_with fail
  clear b1
  go_loopw [5, 6, 12] (fun _ _ i wx => L7E w wx base N.pcs.length (.slice pa N.pcs.length pcap) (.slice ja N.jts.length jcap) N.pcs js k i) (fun _ _ i _ => N.jts.length - (intOf i).toNat)
  case atStart => exact ⟨0, Nat.zero_le _, rfl, HF2.out, HPO2.out, by rw [flT_0]; exact HKR2.out⟩
  case round =>
    clear HF2 HPO2 HKR2
    obtain ⟨t, ht, rfl, hF, hPO, hKR⟩ := hrel
    have HF := hide hF
    have HPO := hide hPO
    have HKR := hide hKR
    clear hF hPO hKR
    by_cases hlt : t < js.length
    · have hti : (t : Int) < (N.jts.length : Int) := by omega
      have hfl := flT_len k js t
      have htf : t < (flT k js t).length := by omega
      have HAT := hide (flT_at k js t hlt htf)
      obtain ⟨g, gc, hjv, _, _⟩ := HKR.out.own.form (by omega)
      obtain ⟨rfl, hml, rfl⟩ : ja = some ⟨g, 0, none⟩ ∧ N.jts.length = (flT k js t).length ∧ jcap = gc := by simpa using hjv
      have HRM := hide (show js[t].jt ∈ N.jts by rw [← HMAP.out]; exact List.mem_map_of_mem (List.getElem_mem hlt))
      have hre := HJE.out _ HRM.out
      have HRS := hide (HSD.out _ HRM.out)
      have HST := hide (flT_step k js t hlt)
      have HSM := hide (show (flT k js t).set t ⟨⟨js[t].jt.kind, js[t].jt.name, flE k js[t].jt.ends 0⟩, js[t].ad, js[t].cap⟩ = flT k js t by
        refine set_same ?_
        rw [List.getElem?_eq_getElem htf, HAT.out, flE_0])
      obtain ⟨eb, hea, _⟩ := HKR.out.ends (flT k js t)[t] (List.getElem_mem htf)
      rw [HAT.out] at hea
      have HC2 := hide (show ∀ (wx : World) (x : Nat), KR wx base (.slice (some ⟨g, 0, none⟩) N.jts.length jcap) ((flT k js t).set t ⟨⟨js[t].jt.kind, js[t].jt.name, flE k js[t].jt.ends x⟩, js[t].ad, js[t].cap⟩) → wx.cell? ⟨g, t * 3 + 2, none⟩ = some (.slice (some ⟨eb, 0, none⟩) js[t].jt.ends.length js[t].cap) from fun wx x hk => by
        have htl : t < ((flT k js t).set t ⟨⟨js[t].jt.kind, js[t].jt.name, flE k js[t].jt.ends x⟩, js[t].ad, js[t].cap⟩).length := by rw [List.length_set]; exact htf
        have ho := hk.own
        rw [List.length_set, ← hml] at ho
        rw [ho.cellAt _ (by omega), (jtCells_at _ t htl).2.2, List.getElem_set_self]
        dsimp only
        rw [flE_len, hea])
      have HKR0 := hide (show KR wr base (.slice (some ⟨g, 0, none⟩) N.jts.length jcap) ((flT k js t).set t ⟨⟨js[t].jt.kind, js[t].jt.name, flE k js[t].jt.ends 0⟩, js[t].ad, js[t].cap⟩) by rw [HSM.out]; exact HKR.out)
      have c2 := HC2.out wr 0 HKR0.out
      have b1 := HF.out.b1
      clear hjv hml hfl
      generalize hr : js[t] = r at *
      go_wp2_with fail
      clear c2 b1
      go_loopw [6, 22] (fun _ i wx => L8E w wx base N.pcs.length (.slice pa N.pcs.length pcap) (.slice (some ⟨g, 0, none⟩) N.jts.length jcap) N.pcs js k t r i) (fun _ i _ => r.jt.ends.length - (intOf i).toNat)
      case atStart => exact ⟨0, Nat.zero_le _, rfl, HF.out, HPO.out, HKR0.out⟩
      case round =>
        clear HF HPO HKR HKR0
        obtain ⟨x, hx, rfl, hF, hPO, hKR⟩ := hrel
        have HF := hide hF
        have HPO := hide hPO
        have HKR := hide hKR
        clear hF hPO hKR
        by_cases hxl : x < r.jt.ends.length
        · have hxi : (x : Int) < (r.jt.ends.length : Int) := by omega
          have c2 := HC2.out wr x HKR.out
          have b1 := HF.out.b1
          have htl : t < ((flT k js t).set t ⟨⟨r.jt.kind, r.jt.name, flE k r.jt.ends x⟩, r.ad, r.cap⟩).length := by rw [List.length_set]; exact htf
          have HRT := hide (show ((flT k js t).set t ⟨⟨r.jt.kind, r.jt.name, flE k r.jt.ends x⟩, r.ad, r.cap⟩)[t] = ⟨⟨r.jt.kind, r.jt.name, flE k r.jt.ends x⟩, r.ad, r.cap⟩ from List.getElem_set_self _)
          have hxf : x < (flE k r.jt.ends x).length := by rw [flE_len]; exact hxl
          obtain ⟨eb', hea', hOE⟩ := HKR.out.ends _ (List.getElem_mem htl)
          rw [HRT.out] at hea' hOE
          dsimp only at hea' hOE
          obtain rfl : eb = eb' := by rw [hea] at hea'; simpa using hea'
          rw [hea] at hOE
          obtain ⟨e0, e1, _, ef1⟩ := ends_get hOE rfl hxf
          have hbe : w.heap.size + 2 ≤ eb := Nat.le_trans hbs (hOE.lt eb (own_slice _ _ _)).1
          rw [flE_at k r.jt.ends x hxl hxf] at e0 e1
          have HES := hide (flE_step k r.jt.ends x hxl)
          have HS01 := hide (HRS.out r.jt.ends[x] (List.getElem_mem hxl))
          have HPUT := hide (fun (wy : World) (hk : KR wy base (.slice (some ⟨g, 0, none⟩) N.jts.length jcap) ((flT k js t).set t ⟨⟨r.jt.kind, r.jt.name, flE k r.jt.ends x⟩, r.ad, r.cap⟩)) (y : Int) (hy : flipE k r.jt.ends[x] = (r.jt.ends[x].1, y)) => show KR (wy.setCell ⟨eb, x * 2 + 1, none⟩ (.int .i64 y)) base (.slice (some ⟨g, 0, none⟩) N.jts.length jcap) ((flT k js t).set t ⟨⟨r.jt.kind, r.jt.name, flE k r.jt.ends (x + 1)⟩, r.ad, r.cap⟩) from by
            have h := hk.put (eb := eb) (x := x) htl (by rw [HRT.out]; exact hxf) (by rw [HRT.out]; exact hea) y
            rw [List.set_set] at h
            simp only [HRT.out] at h
            rw [flE_at k r.jt.ends x hxl hxf, ← hy, HES.out] at h
            exact h)
          have HPN := hide (show (Value.slice pa N.pcs.length pcap).ownBlock ≠ some eb from fun e => by
            rcases owns_ne HPO.out hOE (by decide) with h | h
            · rw [h] at e; simp at e
            · rw [own_slice] at h; exact h e)
          clear hOE hea' HRT htl hxf
          by_cases hek : r.jt.ends[x].1 = k
          · have qk : (r.jt.ends[x].1 == k) = true := by rw [beq_iff_eq]; exact hek
            have HFL := hide (show flipE k r.jt.ends[x] = (r.jt.ends[x].1, 1 - r.jt.ends[x].2) by unfold flipE; rw [if_pos hek])
            have hs01 := HS01.out
            generalize r.jt.ends[x] = ex at *
            clear hek
            go_upto_region 9 with fail
            have hd := (Below.refl wr.heap.size wr).drew
            have HFd := hide (HF.out.later hd)
            have HPOd := hide (owns_later' HPO.out hd)
            have HKRd := hide (HKR.out.later hd)
            have b1 := cell_later' hd b1
            have c2 := cell_later' hd c2
            have ef1 := frozen_later hd e1 ef1
            have e1 := cell_later' hd e1
            have hw01 : IntKind.i64.wrap (1 - ex.2) = 1 - ex.2 := by rw [IntKind.wrap_i64]; omega
            have HSN := hide (HPUT.out wr.drew HKRd.out (1 - ex.2) HFL.out)
            have HPX := hide (show (wr.drew.setCell ⟨eb, x * 2 + 1, none⟩ (.int .i64 (1 - ex.2))).ownsRow base 41 4 (.slice pa N.pcs.length pcap) N.pcs.length (pcCells N.pcs) from ownsRow_setCell_other HPOd.out (a := (⟨eb, x * 2 + 1, none⟩ : Addr)) HPN.out _)
            have hge := HC2.out _ _ HSN.out
            have hgx := HSN.out
            refine wp_region_held_drew (S := fun wx => (wx.cell? ⟨w.heap.size, 1, none⟩ = some (.slice (some ⟨g, 0, none⟩) N.jts.length jcap) ∧ wx.cell? ⟨g, t * 3 + 2, none⟩ = some (.slice (some ⟨eb, 0, none⟩) r.jt.ends.length r.cap))) (by kernel_rfl) ?_ (fun _ => ?_)
            · exact ⟨b1, c2⟩
            have HS0 := hide (And.intro b1 c2)
            have HFX := hide (HFd.out.setUp (B := eb) (o := x * 2 + 1) hbe (.int .i64 (1 - ex.2)))
            have hfb := HFX.out.b1
            clear hgx
            generalize wr.drew = wd at *
            refine wpAnyH_take (i := 0) (v := ?v0) rfl (by kernel_rfl) (by kernel_rfl) (by kernel_rfl) (fun _ _ _ h => h) (Or.inl ⟨by rfl, ?hy0⟩) HS0.out ?rest0
            case hy0 => (intro w hSw; (try dsimp only at hSw); obtain ⟨hS1, hS2⟩ := hSw; go_simp; try with_reducible rfl)
            try simp only [List.getElem_toArray, List.getElem_cons_succ, List.getElem_cons_zero, Act.put, List.setIfInBounds_toArray, List.set_cons_zero, List.set_cons_succ]
            refine wpAnyH_take (i := 1) (v := ?v1) rfl (by kernel_rfl) (by kernel_rfl) (by kernel_rfl) (fun _ _ _ h => h) (Or.inl ⟨by rfl, ?hy1⟩) HS0.out ?rest1
            case hy1 => (intro w hSw; (try dsimp only at hSw); obtain ⟨hS1, hS2⟩ := hSw; go_simp; try with_reducible rfl)
            try simp only [List.getElem_toArray, List.getElem_cons_succ, List.getElem_cons_zero, Act.put, List.setIfInBounds_toArray, List.set_cons_zero, List.set_cons_succ]
            refine wpAnyH_take (i := 2) (v := ?v2) rfl (by kernel_rfl) (by kernel_rfl) (by kernel_rfl) (fun _ _ _ h => h) (Or.inl ⟨by rfl, ?hy2⟩) HS0.out ?rest2
            case hy2 => (intro w hSw; (try dsimp only at hSw); obtain ⟨hS1, hS2⟩ := hSw; go_simp; try with_reducible rfl)
            try simp only [List.getElem_toArray, List.getElem_cons_succ, List.getElem_cons_zero, Act.put, List.setIfInBounds_toArray, List.set_cons_zero, List.set_cons_succ]
            refine wpAnyH_take (i := 3) (v := ?v3) rfl (by kernel_rfl) (by kernel_rfl) (by kernel_rfl) (fun _ _ _ h => h) (Or.inl ⟨by rfl, ?hy3⟩) HS0.out ?rest3
            case hy3 => (intro w hSw; (try dsimp only at hSw); obtain ⟨hS1, hS2⟩ := hSw; go_simp; try with_reducible rfl)
            try simp only [List.getElem_toArray, List.getElem_cons_succ, List.getElem_cons_zero, Act.put, List.setIfInBounds_toArray, List.set_cons_zero, List.set_cons_succ]
            refine wpAnyH_take (i := 4) (v := ?v4) rfl (by kernel_rfl) (by kernel_rfl) (by kernel_rfl) (fun _ _ _ h => h) (Or.inl ⟨by rfl, ?hy4⟩) HS0.out ?rest4
            case hy4 => (intro w hSw; (try dsimp only at hSw); obtain ⟨hS1, hS2⟩ := hSw; go_simp; try with_reducible rfl)
            try simp only [List.getElem_toArray, List.getElem_cons_succ, List.getElem_cons_zero, Act.put, List.setIfInBounds_toArray, List.set_cons_zero, List.set_cons_succ]
            refine wpAnyH_take (i := 5) (v := ?v5) rfl (by kernel_rfl) (by kernel_rfl) (by kernel_rfl) (fun _ _ _ h => h) (Or.inl ⟨by rfl, ?hy5⟩) HS0.out ?rest5
            case hy5 => (intro w hSw; (try dsimp only at hSw); obtain ⟨hS1, hS2⟩ := hSw; go_simp; try with_reducible rfl)
            try simp only [List.getElem_toArray, List.getElem_cons_succ, List.getElem_cons_zero, Act.put, List.setIfInBounds_toArray, List.set_cons_zero, List.set_cons_succ]
            refine wpAnyH_take (i := 6) (v := ?v6) rfl (by kernel_rfl) (by kernel_rfl) (by kernel_rfl) (fun _ _ _ h => h) (Or.inl ⟨by rfl, ?hy6⟩) HS0.out ?rest6
            case hy6 => (intro w hSw; (try dsimp only at hSw); obtain ⟨hS1, hS2⟩ := hSw; go_simp; try with_reducible rfl)
            try simp only [List.getElem_toArray, List.getElem_cons_succ, List.getElem_cons_zero, Act.put, List.setIfInBounds_toArray, List.set_cons_zero, List.set_cons_succ]
            refine wpAnyH_take (i := 7) (v := ?v7) rfl (by kernel_rfl) (by kernel_rfl) (by kernel_rfl) (fun _ _ _ h => h) (Or.inl ⟨by rfl, ?hy7⟩) HS0.out ?rest7
            case hy7 => (intro w hSw; (try dsimp only at hSw); obtain ⟨hS1, hS2⟩ := hSw; go_simp; try with_reducible rfl)
            try simp only [List.getElem_toArray, List.getElem_cons_succ, List.getElem_cons_zero, Act.put, List.setIfInBounds_toArray, List.set_cons_zero, List.set_cons_succ]
            refine wpAnyH_take (i := 8) (v := ?v8) rfl (by kernel_rfl) (by kernel_rfl) (by kernel_rfl) (fun _ _ _ h => h) (Or.inl ⟨by rfl, ?hy8⟩) HS0.out ?rest8
            case hy8 => (intro w hSw; (try dsimp only at hSw); obtain ⟨hS1, hS2⟩ := hSw; go_simp; try with_reducible rfl)
            try simp only [List.getElem_toArray, List.getElem_cons_succ, List.getElem_cons_zero, Act.put, List.setIfInBounds_toArray, List.set_cons_zero, List.set_cons_succ]
            refine wpAnyH_take (i := 9) (v := ?v9) rfl (by kernel_rfl) (by kernel_rfl) (by kernel_rfl) (fun _ _ _ h => h) (Or.inl ⟨by rfl, ?hy9⟩) HS0.out ?rest9
            case hy9 => (intro w hSw; (try dsimp only at hSw); obtain ⟨hS1, hS2⟩ := hSw; go_simp; try with_reducible rfl)
            try simp only [List.getElem_toArray, List.getElem_cons_succ, List.getElem_cons_zero, Act.put, List.setIfInBounds_toArray, List.set_cons_zero, List.set_cons_succ]
            refine wpAnyH_take (i := 10) (v := ?v10) rfl (by kernel_rfl) (by kernel_rfl) (by kernel_rfl) (fun _ _ _ h => h) (Or.inl ⟨by rfl, ?hy10⟩) HS0.out ?rest10
            case hy10 => (intro w hSw; (try dsimp only at hSw); obtain ⟨hS1, hS2⟩ := hSw; go_simp; try with_reducible rfl)
            try simp only [List.getElem_toArray, List.getElem_cons_succ, List.getElem_cons_zero, Act.put, List.setIfInBounds_toArray, List.set_cons_zero, List.set_cons_succ]
            refine wpAnyH_take (i := 11) (v := ?v11) rfl (by kernel_rfl) (by kernel_rfl) (by kernel_rfl) (fun _ _ _ h => h) (Or.inl ⟨by rfl, ?hy11⟩) HS0.out ?rest11
            case hy11 => (intro w hSw; (try dsimp only at hSw); obtain ⟨hS1, hS2⟩ := hSw; go_simp; try with_reducible rfl)
            try simp only [List.getElem_toArray, List.getElem_cons_succ, List.getElem_cons_zero, Act.put, List.setIfInBounds_toArray, List.set_cons_zero, List.set_cons_succ]
            refine wpAnyH_take (i := 12) (v := ?v12) rfl (by kernel_rfl) (by kernel_rfl) (by kernel_rfl) (fun _ _ _ h => h) (Or.inl ⟨by rfl, ?hy12⟩) HS0.out ?rest12
            case hy12 => (intro w hSw; (try dsimp only at hSw); obtain ⟨hS1, hS2⟩ := hSw; go_simp; try with_reducible rfl)
            try simp only [List.getElem_toArray, List.getElem_cons_succ, List.getElem_cons_zero, Act.put, List.setIfInBounds_toArray, List.set_cons_zero, List.set_cons_succ]
            refine wpAnyH_take (i := 13) (v := ?v13) rfl (by kernel_rfl) (by kernel_rfl) (by kernel_rfl) (fun _ _ _ h => h) (Or.inl ⟨by rfl, ?hy13⟩) HS0.out ?rest13
            case hy13 => (intro w hSw; (try dsimp only at hSw); obtain ⟨hS1, hS2⟩ := hSw; go_simp; try with_reducible rfl)
            try simp only [List.getElem_toArray, List.getElem_cons_succ, List.getElem_cons_zero, Act.put, List.setIfInBounds_toArray, List.set_cons_zero, List.set_cons_succ]
            refine wpAnyH_take (i := 14) (v := ?v14) rfl (by kernel_rfl) (by kernel_rfl) (by kernel_rfl) (fun _ _ _ h => h) (Or.inl ⟨by rfl, ?hy14⟩) HS0.out ?rest14
            case hy14 => (intro w hSw; (try dsimp only at hSw); obtain ⟨hS1, hS2⟩ := hSw; go_simp; try with_reducible rfl)
            try simp only [List.getElem_toArray, List.getElem_cons_succ, List.getElem_cons_zero, Act.put, List.setIfInBounds_toArray, List.set_cons_zero, List.set_cons_succ]
            refine wpAnyH_take (i := 15) (v := ?v15) rfl (by kernel_rfl) (by kernel_rfl) (by kernel_rfl) (fun _ _ _ h => h) (Or.inl ⟨by rfl, ?hy15⟩) HS0.out ?rest15
            case hy15 => (intro w hSw; (try dsimp only at hSw); obtain ⟨hS1, hS2⟩ := hSw; go_simp; try with_reducible rfl)
            try simp only [List.getElem_toArray, List.getElem_cons_succ, List.getElem_cons_zero, Act.put, List.setIfInBounds_toArray, List.set_cons_zero, List.set_cons_succ]
            refine wpAnyH_ready (rs := [16]) (by kernel_rfl) (by simp) ?_
            refine AllReadyH.cons rfl (fun K hK => ?_) AllReadyH.nil
            go_simp
            refine hK.out _ _ ?_ (fun _ => ?_)
            · exact HS0.out
            clear hK K
            try simp only [List.getElem_toArray, List.getElem_cons_succ, List.getElem_cons_zero, Act.put, List.setIfInBounds_toArray, List.set_cons_zero, List.set_cons_succ]
            refine wpAnyH_take (i := 17) (v := ?v17) rfl (by kernel_rfl) (by kernel_rfl) (by kernel_rfl) (fun _ _ _ h => h) (Or.inl ⟨by rfl, ?hy17⟩) HS0.out ?rest17
            case hy17 => (intro w hSw; (try dsimp only at hSw); obtain ⟨hS1, hS2⟩ := hSw; go_simp; try with_reducible rfl)
            try simp only [List.getElem_toArray, List.getElem_cons_succ, List.getElem_cons_zero, Act.put, List.setIfInBounds_toArray, List.set_cons_zero, List.set_cons_succ]
            refine wpAnyH_take (i := 18) (v := ?v18) rfl (by kernel_rfl) (by kernel_rfl) (by kernel_rfl) (fun _ _ _ h => h) (Or.inl ⟨by rfl, ?hy18⟩) HS0.out ?rest18
            case hy18 => (intro w hSw; (try dsimp only at hSw); obtain ⟨hS1, hS2⟩ := hSw; go_simp; try with_reducible rfl)
            try simp only [List.getElem_toArray, List.getElem_cons_succ, List.getElem_cons_zero, Act.put, List.setIfInBounds_toArray, List.set_cons_zero, List.set_cons_succ]
            refine wpAnyH_take (i := 19) (v := ?v19) rfl (by kernel_rfl) (by kernel_rfl) (by kernel_rfl) (fun _ _ _ h => h) (Or.inl ⟨by rfl, ?hy19⟩) HS0.out ?rest19
            case hy19 => (intro w hSw; (try dsimp only at hSw); obtain ⟨hS1, hS2⟩ := hSw; go_simp; try with_reducible rfl)
            try simp only [List.getElem_toArray, List.getElem_cons_succ, List.getElem_cons_zero, Act.put, List.setIfInBounds_toArray, List.set_cons_zero, List.set_cons_succ]
            refine wpAnyH_ready (rs := [20]) (by kernel_rfl) (by simp) ?_
            refine AllReadyH.cons rfl (fun K hK => ?_) AllReadyH.nil
            go_simp
            try rw [hw01]
            refine hK.out _ _ ?_ (fun _ => ?_)
            · exact ⟨hfb, hge⟩
            clear hK K
            try simp only [List.getElem_toArray, List.getElem_cons_succ, List.getElem_cons_zero, Act.put, List.setIfInBounds_toArray, List.set_cons_zero, List.set_cons_succ]
            refine wpAnyH_done (by kernel_rfl) ?_ _
            go_wp2_with fail
            exact ⟨⟨x + 1, by omega, by go_num, HFX.out, HPX.out, HSN.out⟩, by simp [intOf]; omega⟩
          · have qk : (r.jt.ends[x].1 == k) = false := by rw [beq_eq_false_iff_ne]; exact hek
            have HFL := hide (show flipE k r.jt.ends[x] = r.jt.ends[x] by unfold flipE; rw [if_neg hek])
            have HSE := hide (show flE k r.jt.ends (x + 1) = flE k r.jt.ends x by
              rw [← HES.out, HFL.out]
              refine set_same ?_
              rw [List.getElem?_eq_getElem (by rw [flE_len]; exact hxl), flE_at k r.jt.ends x hxl])
            go_wp2_with fail
            refine ⟨⟨x + 1, by omega, by go_num, HF.out, HPO.out, ?_⟩, by simp [intOf]; omega⟩
            rw [HSE.out]
            exact HKR.out
        · have hxx : x = r.jt.ends.length := by omega
          subst hxx
          have hxf : decide ((r.jt.ends.length : Int) < (r.jt.ends.length : Int)) = false := by rw [decide_eq_false_iff_not]; omega
          go_wp2_with fail
          refine ⟨⟨t + 1, by omega, by go_num, HF.out, HPO.out, ?_⟩, by simp [intOf]; omega⟩
          have h := HKR.out
          rw [flE_end] at h
          rw [← HST.out]
          exact h
    · have htt : t = js.length := by omega
      subst htt
      have hkf2 : decide ((N.jts.length : Int) < (N.jts.length : Int)) = false := by rw [decide_eq_false_iff_not]; omega
      have HB9 := hide (show Below w.heap.size w ((wr.setCell ⟨w.heap.size + 1, 0, none⟩ (.slice pa N.pcs.length pcap)).setCell ⟨w.heap.size + 1, 1, none⟩ (.slice ja N.jts.length jcap)) from (HF.out.bel.setCell (by simp) _).setCell (by simp) _)
      have HPR9 := hide (ownsRow_setCell_below (ownsRow_setCell_below HPO.out (a := (⟨w.heap.size + 1, 0, none⟩ : Addr)) (by show w.heap.size + 1 < base; omega) (.slice pa N.pcs.length pcap)) (a := (⟨w.heap.size + 1, 1, none⟩ : Addr)) (by show w.heap.size + 1 < base; omega) (.slice ja N.jts.length jcap))
      have HKR9 := hide ((HKR.out.setBelow (B := w.heap.size + 1) (o := 0) (by omega) (.slice pa N.pcs.length pcap)).setBelow (B := w.heap.size + 1) (o := 1) (by omega) (.slice ja N.jts.length jcap))
      have r0 := HF.out.r0
      have r1 := HF.out.r1
      have rf0 := HF.out.rf0
      have rf1 := HF.out.rf1
      have b0 := HF.out.b0
      have b1 := HF.out.b1
      rw [hjsl]
      go_wp2_with fail
      refine bodyPost_ret (v := .agg #[.slice pa N.pcs.length pcap, .slice ja N.jts.length jcap]) (by simp [results, Try.results16, go_sem, r0, r1]) rfl ?_
      obtain ⟨pa', pcap', hpv, hPA⟩ := pcs_at_of HPR9.out
      obtain ⟨ja', jcap', hjv, hJA⟩ := kjts_at_of HKR9.out
      obtain ⟨rfl, rfl⟩ : pa = pa' ∧ pcap = pcap' := by simpa using hpv
      have hja : ja = ja' := by simp at hjv; exact hjv.1
      subst hja
      refine ⟨pa, ja, pcap, jcap, rfl, hPA, ?_, HB9.out⟩
      have e : (flT k js js.length).map (·.jt) = (flipN k N).jts := by
        rw [flT_end, List.map_map]
        show _ = N.jts.map (flipJ k)
        rw [← HMAP.out, List.map_map]
        rfl
      rw [← e]
      exact hJA
end Go.Proofs.Yteapmddadieohaa

/- laws.wFlip. Own work. -/
namespace Go.Proofs.Yteapmddadieohaa
open Go.RowKit
set_option maxHeartbeats 8000000
set_option linter.unusedSimpArgs false

set_option maxRecDepth 20000 in
theorem wFlip_any (pa ja : Option Addr) (N : Nt) (pcap jcap : Nat) (q at' wy : Int) (k : Nat) (w : World) (hk : k < N.pcs.length) (hN : NetBd N) (ha : -1000 ≤ at' ∧ at' ≤ 1000) (hw : wy = 1 ∨ wy = -1) (hp : PcsAt w pa N.pcs) :
    Calls Try.prog 17 #[.agg #[.slice pa N.pcs.length pcap, .slice ja N.jts.length jcap], .agg #[.int .i64 q, .int .i64 at', .int .i64 wy], .int .i64 (k : Int)] w fun e w' =>
    e = .returned (.agg #[.int .i64 (flipS N k (q, at', wy)).1, .int .i64 (flipS N k (q, at', wy)).2.1, .int .i64 (flipS N k (q, at', wy)).2.2]) ∧ Below w.heap.size w w' := by
  have hlen := hN.len_at hk
  have HLN := hide (lenAt_nat N k hk)
  have hki : (k : Int) < (N.pcs.length : Int) := by omega
  have hb0 : Below w.heap.size w (((w.alloc (.cells #[.slice pa N.pcs.length pcap, .slice ja N.jts.length jcap] 26)).alloc (.cells #[.int .i64 q, .int .i64 at', .int .i64 wy] 29)).alloc (.cells #[.int .i64 0, .int .i64 0, .int .i64 0] 29)) := (((Below.refl _ _).alloc (Nat.le_refl _) _).alloc (by simp) _).alloc (by simp; omega) _
  by_cases hq : q = (k : Int)
  · have qk : (q == (k : Int)) = true := by rw [beq_iff_eq]; exact hq
    have HFS := hide (show flipS N k (q, at', wy) = (q, lenAt N k - at', -wy) by unfold flipS; dsimp only; rw [if_pos hq, hq])
    rw [HFS.out]
    obtain ⟨b, off, rfl, _, p1, _, _⟩ := hp k hk
    rw [← HLN.out] at p1
    have hbl := cell_lt p1
    generalize lenAt N k = L at *
    clear HFS HLN hq
    go_enter Try.func17, Try.ntmps17
    go_upto_region 2 with fail
    have n0 : (((w.alloc (.cells #[.slice (some ⟨b, off, none⟩) N.pcs.length pcap, .slice ja N.jts.length jcap] 26)).alloc (.cells #[.int .i64 q, .int .i64 at', .int .i64 wy] 29)).alloc (.cells #[.int .i64 0, .int .i64 0, .int .i64 0] 29)).cell? ⟨w.heap.size, 0, none⟩ = some (.slice (some ⟨b, off, none⟩) N.pcs.length pcap) := by simp [go_sem]
    have s0 : (((w.alloc (.cells #[.slice (some ⟨b, off, none⟩) N.pcs.length pcap, .slice ja N.jts.length jcap] 26)).alloc (.cells #[.int .i64 q, .int .i64 at', .int .i64 wy] 29)).alloc (.cells #[.int .i64 0, .int .i64 0, .int .i64 0] 29)).cell? ⟨w.heap.size + 1, 0, none⟩ = some (.int .i64 q) := by simp [go_sem]
    have s1 : (((w.alloc (.cells #[.slice (some ⟨b, off, none⟩) N.pcs.length pcap, .slice ja N.jts.length jcap] 26)).alloc (.cells #[.int .i64 q, .int .i64 at', .int .i64 wy] 29)).alloc (.cells #[.int .i64 0, .int .i64 0, .int .i64 0] 29)).cell? ⟨w.heap.size + 1, 1, none⟩ = some (.int .i64 at') := by simp [go_sem]
    have s2 : (((w.alloc (.cells #[.slice (some ⟨b, off, none⟩) N.pcs.length pcap, .slice ja N.jts.length jcap] 26)).alloc (.cells #[.int .i64 q, .int .i64 at', .int .i64 wy] 29)).alloc (.cells #[.int .i64 0, .int .i64 0, .int .i64 0] 29)).cell? ⟨w.heap.size + 1, 2, none⟩ = some (.int .i64 wy) := by simp [go_sem]
    have z0 : (((w.alloc (.cells #[.slice (some ⟨b, off, none⟩) N.pcs.length pcap, .slice ja N.jts.length jcap] 26)).alloc (.cells #[.int .i64 q, .int .i64 at', .int .i64 wy] 29)).alloc (.cells #[.int .i64 0, .int .i64 0, .int .i64 0] 29)).cell? ⟨w.heap.size + 1 + 1, 0, none⟩ = some (.int .i64 0) := by simp [go_sem]
    have z1 : (((w.alloc (.cells #[.slice (some ⟨b, off, none⟩) N.pcs.length pcap, .slice ja N.jts.length jcap] 26)).alloc (.cells #[.int .i64 q, .int .i64 at', .int .i64 wy] 29)).alloc (.cells #[.int .i64 0, .int .i64 0, .int .i64 0] 29)).cell? ⟨w.heap.size + 1 + 1, 1, none⟩ = some (.int .i64 0) := by simp [go_sem]
    have z2 : (((w.alloc (.cells #[.slice (some ⟨b, off, none⟩) N.pcs.length pcap, .slice ja N.jts.length jcap] 26)).alloc (.cells #[.int .i64 q, .int .i64 at', .int .i64 wy] 29)).alloc (.cells #[.int .i64 0, .int .i64 0, .int .i64 0] 29)).cell? ⟨w.heap.size + 1 + 1, 2, none⟩ = some (.int .i64 0) := by simp [go_sem]
    have sf1 : (((w.alloc (.cells #[.slice (some ⟨b, off, none⟩) N.pcs.length pcap, .slice ja N.jts.length jcap] 26)).alloc (.cells #[.int .i64 q, .int .i64 at', .int .i64 wy] 29)).alloc (.cells #[.int .i64 0, .int .i64 0, .int .i64 0] 29)).frozen? ⟨w.heap.size + 1, 1, none⟩ = false := by simp [go_sem]
    have sf2 : (((w.alloc (.cells #[.slice (some ⟨b, off, none⟩) N.pcs.length pcap, .slice ja N.jts.length jcap] 26)).alloc (.cells #[.int .i64 q, .int .i64 at', .int .i64 wy] 29)).alloc (.cells #[.int .i64 0, .int .i64 0, .int .i64 0] 29)).frozen? ⟨w.heap.size + 1, 2, none⟩ = false := by simp [go_sem]
    have zf0 : (((w.alloc (.cells #[.slice (some ⟨b, off, none⟩) N.pcs.length pcap, .slice ja N.jts.length jcap] 26)).alloc (.cells #[.int .i64 q, .int .i64 at', .int .i64 wy] 29)).alloc (.cells #[.int .i64 0, .int .i64 0, .int .i64 0] 29)).frozen? ⟨w.heap.size + 1 + 1, 0, none⟩ = false := by simp [go_sem]
    have zf1 : (((w.alloc (.cells #[.slice (some ⟨b, off, none⟩) N.pcs.length pcap, .slice ja N.jts.length jcap] 26)).alloc (.cells #[.int .i64 q, .int .i64 at', .int .i64 wy] 29)).alloc (.cells #[.int .i64 0, .int .i64 0, .int .i64 0] 29)).frozen? ⟨w.heap.size + 1 + 1, 1, none⟩ = false := by simp [go_sem]
    have zf2 : (((w.alloc (.cells #[.slice (some ⟨b, off, none⟩) N.pcs.length pcap, .slice ja N.jts.length jcap] 26)).alloc (.cells #[.int .i64 q, .int .i64 at', .int .i64 wy] 29)).alloc (.cells #[.int .i64 0, .int .i64 0, .int .i64 0] 29)).frozen? ⟨w.heap.size + 1 + 1, 2, none⟩ = false := by simp [go_sem]
    have p1 := cell_later' hb0 p1
    have HB0 := hide hb0
    clear hb0
    generalize (((w.alloc (.cells #[.slice (some ⟨b, off, none⟩) N.pcs.length pcap, .slice ja N.jts.length jcap] 26)).alloc (.cells #[.int .i64 q, .int .i64 at', .int .i64 wy] 29)).alloc (.cells #[.int .i64 0, .int .i64 0, .int .i64 0] 29)) = W0 at *
    have hd := (Below.refl W0.heap.size W0).drew
    have sf1 := frozen_later hd s1 sf1
    have sf2 := frozen_later hd s2 sf2
    have zf0 := frozen_later hd z0 zf0
    have zf1 := frozen_later hd z1 zf1
    have zf2 := frozen_later hd z2 zf2
    have n0 := cell_later' hd n0
    have s0 := cell_later' hd s0
    have s1 := cell_later' hd s1
    have s2 := cell_later' hd s2
    have z0 := cell_later' hd z0
    have z1 := cell_later' hd z1
    have z2 := cell_later' hd z2
    have p1 := cell_later' hd p1
    have HBd := hide (HB0.out.trans (hd.mono HB0.out.size))
    have hwL : IntKind.i64.wrap (L - at') = L - at' := by rw [IntKind.wrap_i64]; omega
    have hwN : IntKind.i64.wrap (-wy) = -wy := by rw [IntKind.wrap_i64]; omega
    refine wp_region_held_drew (S := fun wx => (wx.cell? ⟨w.heap.size, 0, none⟩ = some (.slice (some ⟨b, off, none⟩) N.pcs.length pcap) ∧ wx.cell? ⟨b, off + k * 4 + 1, none⟩ = some (.int .i64 L))) (by kernel_rfl) ?_ (fun _ => ?_)
    · exact ⟨n0, p1⟩
    have HS0 := hide (And.intro n0 p1)
    clear hd HB0
    generalize W0.drew = wd at *
    have hn1 : (wd.setCell ⟨w.heap.size + 1, 1, none⟩ (.int .i64 (L - at'))).cell? ⟨w.heap.size, 0, none⟩ = some (.slice (some ⟨b, off, none⟩) N.pcs.length pcap) := by simp [go_sem, n0]
    have hp1 : (wd.setCell ⟨w.heap.size + 1, 1, none⟩ (.int .i64 (L - at'))).cell? ⟨b, off + k * 4 + 1, none⟩ = some (.int .i64 L) := by
      rw [World.cell?_of_block (w := wd) (a := ⟨b, off + k * 4 + 1, none⟩) (Below.heap_setCell _ _ _ _ (by show b ≠ w.heap.size + 1; omega))]
      exact p1
    refine wpAnyH_take (i := 0) (v := ?v0) rfl (by kernel_rfl) (by kernel_rfl) (by kernel_rfl) (fun _ _ _ h => h) (Or.inl ⟨by rfl, ?hy0⟩) HS0.out ?rest0
    case hy0 => (intro w hSw; (try dsimp only at hSw); obtain ⟨hS1, hS2⟩ := hSw; go_simp; try with_reducible rfl)
    try simp only [List.getElem_toArray, List.getElem_cons_succ, List.getElem_cons_zero, Act.put, List.setIfInBounds_toArray, List.set_cons_zero, List.set_cons_succ]
    refine wpAnyH_take (i := 1) (v := ?v1) rfl (by kernel_rfl) (by kernel_rfl) (by kernel_rfl) (fun _ _ _ h => h) (Or.inl ⟨by rfl, ?hy1⟩) HS0.out ?rest1
    case hy1 => (intro w hSw; (try dsimp only at hSw); obtain ⟨hS1, hS2⟩ := hSw; go_simp; try with_reducible rfl)
    try simp only [List.getElem_toArray, List.getElem_cons_succ, List.getElem_cons_zero, Act.put, List.setIfInBounds_toArray, List.set_cons_zero, List.set_cons_succ]
    refine wpAnyH_take (i := 2) (v := ?v2) rfl (by kernel_rfl) (by kernel_rfl) (by kernel_rfl) (fun _ _ _ h => h) (Or.inl ⟨by rfl, ?hy2⟩) HS0.out ?rest2
    case hy2 => (intro w hSw; (try dsimp only at hSw); obtain ⟨hS1, hS2⟩ := hSw; go_simp; try with_reducible rfl)
    try simp only [List.getElem_toArray, List.getElem_cons_succ, List.getElem_cons_zero, Act.put, List.setIfInBounds_toArray, List.set_cons_zero, List.set_cons_succ]
    refine wpAnyH_take (i := 3) (v := ?v3) rfl (by kernel_rfl) (by kernel_rfl) (by kernel_rfl) (fun _ _ _ h => h) (Or.inl ⟨by rfl, ?hy3⟩) HS0.out ?rest3
    case hy3 => (intro w hSw; (try dsimp only at hSw); obtain ⟨hS1, hS2⟩ := hSw; go_simp; try with_reducible rfl)
    try simp only [List.getElem_toArray, List.getElem_cons_succ, List.getElem_cons_zero, Act.put, List.setIfInBounds_toArray, List.set_cons_zero, List.set_cons_succ]
    refine wpAnyH_take (i := 4) (v := ?v4) rfl (by kernel_rfl) (by kernel_rfl) (by kernel_rfl) (fun _ _ _ h => h) (Or.inl ⟨by rfl, ?hy4⟩) HS0.out ?rest4
    case hy4 => (intro w hSw; (try dsimp only at hSw); obtain ⟨hS1, hS2⟩ := hSw; go_simp; try with_reducible rfl)
    try simp only [List.getElem_toArray, List.getElem_cons_succ, List.getElem_cons_zero, Act.put, List.setIfInBounds_toArray, List.set_cons_zero, List.set_cons_succ]
    refine wpAnyH_take (i := 5) (v := ?v5) rfl (by kernel_rfl) (by kernel_rfl) (by kernel_rfl) (fun _ _ _ h => h) (Or.inl ⟨by rfl, ?hy5⟩) HS0.out ?rest5
    case hy5 => (intro w hSw; (try dsimp only at hSw); obtain ⟨hS1, hS2⟩ := hSw; go_simp; try with_reducible rfl)
    try simp only [List.getElem_toArray, List.getElem_cons_succ, List.getElem_cons_zero, Act.put, List.setIfInBounds_toArray, List.set_cons_zero, List.set_cons_succ]
    refine wpAnyH_take (i := 6) (v := ?v6) rfl (by kernel_rfl) (by kernel_rfl) (by kernel_rfl) (fun _ _ _ h => h) (Or.inl ⟨by rfl, ?hy6⟩) HS0.out ?rest6
    case hy6 => (intro w hSw; (try dsimp only at hSw); obtain ⟨hS1, hS2⟩ := hSw; go_simp; try with_reducible rfl)
    try simp only [List.getElem_toArray, List.getElem_cons_succ, List.getElem_cons_zero, Act.put, List.setIfInBounds_toArray, List.set_cons_zero, List.set_cons_succ]
    refine wpAnyH_ready (rs := [7]) (by kernel_rfl) (by simp) ?_
    refine AllReadyH.cons rfl (fun K hK => ?_) AllReadyH.nil
    go_simp
    refine hK.out _ _ ?_ (fun _ => ?_)
    · exact HS0.out
    clear hK K
    try simp only [List.getElem_toArray, List.getElem_cons_succ, List.getElem_cons_zero, Act.put, List.setIfInBounds_toArray, List.set_cons_zero, List.set_cons_succ]
    refine wpAnyH_take (i := 8) (v := ?v8) rfl (by kernel_rfl) (by kernel_rfl) (by kernel_rfl) (fun _ _ _ h => h) (Or.inl ⟨by rfl, ?hy8⟩) HS0.out ?rest8
    case hy8 => (intro w hSw; (try dsimp only at hSw); obtain ⟨hS1, hS2⟩ := hSw; go_simp; try with_reducible rfl)
    try simp only [List.getElem_toArray, List.getElem_cons_succ, List.getElem_cons_zero, Act.put, List.setIfInBounds_toArray, List.set_cons_zero, List.set_cons_succ]
    refine wpAnyH_take (i := 9) (v := ?v9) rfl (by kernel_rfl) (by kernel_rfl) (by kernel_rfl) (fun _ _ _ h => h) (Or.inl ⟨by rfl, ?hy9⟩) HS0.out ?rest9
    case hy9 => (intro w hSw; (try dsimp only at hSw); obtain ⟨hS1, hS2⟩ := hSw; go_simp; try with_reducible rfl)
    try simp only [List.getElem_toArray, List.getElem_cons_succ, List.getElem_cons_zero, Act.put, List.setIfInBounds_toArray, List.set_cons_zero, List.set_cons_succ]
    refine wpAnyH_ready (rs := [10]) (by kernel_rfl) (by simp) ?_
    refine AllReadyH.cons rfl (fun K hK => ?_) AllReadyH.nil
    go_simp
    try rw [hwL]
    refine hK.out _ _ ?_ (fun _ => ?_)
    · exact ⟨hn1, hp1⟩
    clear hK K
    try simp only [List.getElem_toArray, List.getElem_cons_succ, List.getElem_cons_zero, Act.put, List.setIfInBounds_toArray, List.set_cons_zero, List.set_cons_succ]
    refine wpAnyH_done (by kernel_rfl) ?_ _
    go_wp2_with fail
    refine bodyPost_ret (v := .agg #[.int .i64 q, .int .i64 (L - at'), .int .i64 (-wy)]) (by simp [results, Try.results17, go_sem, z0, z1, z2]) rfl ⟨rfl, ?_⟩
    have hle1 : w.heap.size ≤ w.heap.size + 1 := by omega
    have hle2 : w.heap.size ≤ w.heap.size + 1 + 1 := by omega
    exact ((((HBd.out.setCell hle1 _).setCell hle1 _).setCell hle2 _).setCell hle2 _).setCell hle2 _
  · have qk : (q == (k : Int)) = false := by rw [beq_eq_false_iff_ne]; exact hq
    have HFS := hide (show flipS N k (q, at', wy) = (q, at', wy) by unfold flipS; dsimp only; rw [if_neg hq])
    rw [HFS.out]
    go_enter Try.func17, Try.ntmps17
    go_wp2_with fail
    refine bodyPost_ret (v := .agg #[.int .i64 q, .int .i64 at', .int .i64 wy]) (by simp [results, Try.results17, go_sem]) rfl ⟨rfl, ?_⟩
    exact (((Below.refl _ _).alloc (Nat.le_refl _) _).alloc (by simp) _).alloc (by simp; omega) _
end Go.Proofs.Yteapmddadieohaa

/- A drawn track is right: plain. Own work. -/
namespace Go.Proofs.Yteapmddadieohaa
set_option maxHeartbeats 1000000

/-! ### Names -/
theorem nameP_nm : ∀ i : Fin 9, nm (nameP (i.val : Int)) = true := by decide +kernel
theorem nameP_nm1 : ∀ i : Fin 18, nm (nameP (100 + (i.val : Int))) = true := by decide +kernel
theorem nameP_ne : ∀ i k : Fin 9, i ≠ k → ((nameP (i.val : Int)).toList == (nameP (k.val : Int)).toList) = false := by decide +kernel
theorem nameP_ne1 : ∀ i k : Fin 18, i ≠ k → ((nameP (100 + (i.val : Int))).toList == (nameP (100 + (k.val : Int))).toList) = false := by decide +kernel
theorem nameP_some : ∀ k : Fin 18, ((⟨#[]⟩ : ByteArray).toList == (nameP (100 + (k.val : Int))).toList) = false := by decide +kernel
theorem name_empty : ((⟨#[]⟩ : ByteArray).toList).isEmpty = true := by decide +kernel

theorem inR_of {x a b : Int} (h1 : a ≤ x) (h2 : x ≤ b) : inR x a b = true := by simp [inR, h1, h2]

/-! ### Pieces -/
theorem pcs_get (code : List Int) (small : Int) (c0 : Cu) : ∀ (i k : Nat) (hk : k < (pcsTo code small c0 i).1.length), ∃ c, (pcsTo code small c0 i).1[k] = pcDraw code small k c
  | 0, k, hk => by simp [pcsTo] at hk
  | i + 1, k, hk => by
    have hl := pcsTo_len code small c0 i
    have hl1 := pcsTo_len code small c0 (i + 1)
    by_cases h : k < i
    · obtain ⟨c, hc⟩ := pcs_get code small c0 i k (by omega)
      refine ⟨c, ?_⟩
      rw [← hc]
      simp only [pcsTo]
      exact List.getElem_append_left (by omega)
    · have e : k = i := by omega
      refine ⟨(pcsTo code small c0 i).2, ?_⟩
      simp only [pcsTo]
      rw [List.getElem_append_right (by omega)]
      simp [e]

/-! ### Ends -/
theorem count_swap (es : List (Int × Int)) (i k : Nat) (hi : i < es.length) (hk : k < es.length) (b : Int × Int) : (swapAt es i k).count b = es.count b := by
  unfold swapAt
  have e1 : es[i]! = es[i] := by simp [hi]
  have e2 : es[k]! = es[k] := by simp [hk]
  rw [e1, e2, List.count_set (by simpa using hk), List.count_set hi]
  have e3 : (es.set i es[k])[k]'(by simpa using hk) = es[k] := by
    rw [List.getElem_set]
    split <;> rfl
  rw [e3]
  by_cases h1 : es[i] = b
  · have : 0 < es.count b := List.count_pos_iff.2 (h1 ▸ List.getElem_mem hi)
    by_cases h2 : es[k] = b
    · simp [h1, h2]; omega
    · simp [h1, h2]; omega
  · by_cases h2 : es[k] = b
    · simp [h1, h2]
    · simp [h1, h2]
theorem count_shuf (code : List Int) (b : Int × Int) : ∀ (i : Nat) (es : List (Int × Int)) (c : Cu), (i = 0 ∨ i < es.length) → (shuf code i es c).1.count b = es.count b
  | 0, es, c, _ => rfl
  | i + 1, es, c, h => by
    have hi : i + 1 < es.length := by omega
    have hb := shufI_bd code (i + 1) c
    rw [shuf, count_shuf code b i _ _ (by rw [swapAt_len]; omega), count_swap _ _ _ hi (by omega)]
theorem mem_endsTo {e : Int × Int} : ∀ {i : Nat}, e ∈ endsTo i → 0 ≤ e.1 ∧ e.1 < i ∧ (e.2 = 0 ∨ e.2 = 1)
  | 0, h => by simp [endsTo] at h
  | i + 1, h => by
    simp only [endsTo, List.mem_append, List.mem_cons, List.not_mem_nil, or_false] at h
    rcases h with h | rfl | rfl
    · have := mem_endsTo h; omega
    · simp; omega
    · simp; omega
theorem count_endsTo (s : Int) (hs : s = 0 ∨ s = 1) (k : Nat) : ∀ i : Nat, (endsTo i).count ((k : Int), s) = if k < i then 1 else 0
  | 0 => by simp [endsTo]
  | i + 1 => by
    rw [endsTo, List.count_append, count_endsTo s hs k i]
    by_cases h : k = i
    · subst h
      rcases hs with rfl | rfl <;> simp
    · rcases hs with rfl | rfl <;> simp [List.count_cons] <;> (repeat' split) <;> omega

/-! ### Joints -/
theorem jrun_get (code : List Int) (P : Int × Int → Prop) : ∀ (f : Nat) (js : List Jt) (es : List (Int × Int)) (c : Cu), (∀ e ∈ es, P e) → (∀ k (hk : k < js.length), ∃ es' c', 0 < es'.length ∧ (∀ e ∈ es', P e) ∧ js[k] = jtDraw code k es' c') →
    ∀ k (hk : k < (jrun code f js es c).length), ∃ es' c', 0 < es'.length ∧ (∀ e ∈ es', P e) ∧ (jrun code f js es c)[k] = jtDraw code k es' c'
  | 0, js, es, c, _, h => h
  | f + 1, js, es, c, he, h => by
    intro k hk
    by_cases h0 : es.length = 0
    · have e : jrun code (f + 1) js es c = js := by rw [jrun, if_pos h0]
      obtain ⟨es', c', h1, h2, h3⟩ := h k (by rw [e] at hk; exact hk)
      exact ⟨es', c', h1, h2, by rw [← h3]; simp only [e]⟩
    · have e : jrun code (f + 1) js es c = jrun code f (js ++ [jtDraw code js.length es c]) (es.drop (jtKind code es c).toNat) (pickC code 7 c) := by rw [jrun, if_neg h0]
      obtain ⟨es', c', h1, h2, h3⟩ := jrun_get code P f (js ++ [jtDraw code js.length es c]) (es.drop (jtKind code es c).toNat) (pickC code 7 c) (fun x hx => he x (List.mem_of_mem_drop hx)) (fun m hm => by
        by_cases hm' : m < js.length
        · obtain ⟨es', c', h1, h2, h3⟩ := h m hm'
          exact ⟨es', c', h1, h2, by rw [← h3]; exact List.getElem_append_left hm'⟩
        · have : m = js.length := by simp at hm; omega
          subst this
          exact ⟨es, c, by omega, he, by simp⟩) k (by rw [e] at hk; exact hk)
      exact ⟨es', c', h1, h2, by rw [← h3]; simp only [e]⟩
theorem jrun_ends (code : List Int) : ∀ (f : Nat) (js : List Jt) (es : List (Int × Int)) (c : Cu), es.length ≤ f → allEnds (jrun code f js es c) = allEnds js ++ es
  | 0, js, es, c, h => by
    have : es = [] := List.length_eq_zero_iff.1 (by omega)
    simp [jrun, this]
  | f + 1, js, es, c, h => by
    rw [jrun]
    split
    · rename_i h0
      simp [List.length_eq_zero_iff.1 h0]
    · rename_i h0
      have := jtKind_bd code es c (by omega)
      rw [jrun_ends code f _ _ _ (by simp; omega)]
      have e : allEnds (js ++ [jtDraw code js.length es c]) = allEnds js ++ es.take (jtKind code es c).toNat := by simp [allEnds, jtDraw]
      rw [e, List.append_assoc, List.take_append_drop]
theorem jrun_len (code : List Int) : ∀ (f : Nat) (js : List Jt) (es : List (Int × Int)) (c : Cu), (jrun code f js es c).length ≤ js.length + es.length
  | 0, js, es, c => by simp [jrun]
  | f + 1, js, es, c => by
    rw [jrun]
    split
    · omega
    · have := jtKind_bd code es c (by omega)
      have := jrun_len code f (js ++ [jtDraw code js.length es c]) (es.drop (jtKind code es c).toNat) (pickC code 7 c)
      simp at this
      omega

/-- A drawn track is right. -/
theorem netP_right (code : List Int) (c : Cu) : netOk (netP code c) = (0, 0) := by
  have hk := pickV_bd (code := code) (n := 9) (by omega) (pickC code 4 c)
  generalize hK : (1 + pickV code 9 (pickC code 4 c)).toNat = K
  have hK9 : 1 ≤ K ∧ K ≤ 9 := by omega
  have hpcs : (netP code c).pcs = (pcsTo code (pickV code 4 c) (pickC code 9 (pickC code 4 c)) K).1 := by unfold netP; simp only [hK]
  have hjts : (netP code c).jts = jrun code (2 * K) [] (shuf code (2 * K - 1) (endsTo K) (pcsTo code (pickV code 4 c) (pickC code 9 (pickC code 4 c)) K).2).1 (shuf code (2 * K - 1) (endsTo K) (pcsTo code (pickV code 4 c) (pickC code 9 (pickC code 4 c)) K).2).2 := by unfold netP; simp only [hK]
  have hpl := pcsTo_len code (pickV code 4 c) (pickC code 9 (pickC code 4 c)) K
  have hpg := pcs_get code (pickV code 4 c) (pickC code 9 (pickC code 4 c)) K
  have hcs := fun b => count_shuf code b (2 * K - 1) (endsTo K) (pcsTo code (pickV code 4 c) (pickC code 9 (pickC code 4 c)) K).2 (by rw [endsTo_len]; omega)
  have hsl := shuf_len code (2 * K - 1) (endsTo K) (pcsTo code (pickV code 4 c) (pickC code 9 (pickC code 4 c)) K).2
  rw [endsTo_len] at hsl
  generalize hS : shuf code (2 * K - 1) (endsTo K) (pcsTo code (pickV code 4 c) (pickC code 9 (pickC code 4 c)) K).2 = S at *
  have hmem : ∀ e ∈ S.1, 0 ≤ e.1 ∧ e.1 < K ∧ (e.2 = 0 ∨ e.2 = 1) := fun e he => by
    have h1 : 0 < S.1.count e := List.count_pos_iff.2 he
    rw [hcs e] at h1
    exact mem_endsTo (List.count_pos_iff.1 h1)
  have hjg := jrun_get code (fun e => 0 ≤ e.1 ∧ e.1 < K ∧ (e.2 = 0 ∨ e.2 = 1)) (2 * K) [] S.1 S.2 hmem (fun k hk => by simp at hk)
  have hje := jrun_ends code (2 * K) [] S.1 S.2 (by omega)
  have hjl := jrun_len code (2 * K) [] S.1 S.2
  rw [← hpcs] at hpl hpg
  rw [← hjts] at hjg hje hjl
  simp only [List.length_nil, Nat.zero_add] at hjl
  generalize netP code c = N at *
  clear hpcs hjts hS
  refine netOk_0 ?_ ?_ ?_ ?_ ?_
  · simp only [sizeBad, Bool.or_eq_false_iff, decide_eq_false_iff_not]; omega
  · intro j hj
    rw [pcBad_eq hj]
    obtain ⟨d, hd⟩ := hpg j hj
    have hn := nameP_nm ⟨j, by omega⟩
    have ho : N.pcs[j].ok = true := by
      rw [hd]
      have b2 := pickV_bd (code := code) (n := 200) (by omega) (pcC2 code (pickV code 4 c) d)
      have b3 := pickV_bd (code := code) (n := 90) (by omega) (pickC code 200 (pcC2 code (pickV code 4 c) d))
      have b1 : 1 ≤ pcLen code (pickV code 4 c) d ∧ pcLen code (pickV code 4 c) d ≤ 300 := by
        unfold pcLen
        have p1 := pickV_bd (code := code) (n := 4) (by omega) (wideC code d)
        have p2 := wideV_bd (code := code) (n := 300) (by omega) d
        split <;> omega
      show (nm (nameP (j : Int)) && inR (pcLen code (pickV code 4 c) d) 1 10000000 && inR (1 + pickV code 200 (pcC2 code (pickV code 4 c) d)) 1 10000 && inR (1 + pickV code 90 (pickC code 200 (pcC2 code (pickV code 4 c) d))) 1 1000) = true
      rw [hn, inR_of b1.1 (by omega), inR_of (by omega) (by omega), inR_of (by omega) (by omega)]
      rfl
    rw [ho, any_take_false (fun u hu hl => ?_)]
    · rfl
    · obtain ⟨d', hd'⟩ := hpg u hl
      rw [hd, hd']
      exact nameP_ne ⟨u, by omega⟩ ⟨j, by omega⟩ (by intro e; injection e; omega)
  · intro j hj
    rw [jtBad3_eq hj]
    obtain ⟨es, d, h1, h2, h3⟩ := hjg j hj
    have hb := jtKind_bd code es d h1
    rw [h3]
    have e1 : inR (jtDraw code j es d).kind 1 4 = true := inR_of hb.1 hb.2.1
    have e2 : ((jtDraw code j es d).ends.length : Int) = (jtDraw code j es d).kind := by
      simp only [jtDraw, List.length_take]; omega
    rw [e1, e2, any_false' (fun u hl => ?_)]
    · simp
    · have := h2 _ (List.mem_of_mem_take (List.getElem_mem hl))
      unfold endOk
      rw [inR_of (by omega) (by omega), inR_of (by omega) (by omega)]
      rfl
  · intro j hj
    rw [jtBad4_eq hj]
    obtain ⟨es, d, h1, h2, h3⟩ := hjg j hj
    rw [h3]
    split
    · rename_i hk3
      have : (jtDraw code j es d).name = ⟨#[]⟩ := by
        simp only [jtDraw] at hk3 ⊢
        rw [if_neg (by omega)]
      rw [this, name_empty]; rfl
    · rename_i hk3
      have hnm : (jtDraw code j es d).name = nameP (100 + (j : Int)) := by
        simp only [jtDraw] at hk3 ⊢
        rw [if_pos (by omega)]
      rw [hnm, nameP_nm1 ⟨j, by omega⟩, any_take_false (fun u hu hl => ?_)]
      · rfl
      · obtain ⟨es', d', _, _, h3'⟩ := hjg u hl
        rw [h3']
        simp only [jtDraw]
        split
        · exact nameP_ne1 ⟨u, by omega⟩ ⟨j, by omega⟩ (by intro e; injection e; omega)
        · exact nameP_some ⟨j, by omega⟩
  · intro j hj
    have hu : ∀ s, (s = 0 ∨ s = 1) → uses N.jts ((j : Int), s) = 1 := fun s hs => by
      unfold uses
      rw [hje]
      simp only [allEnds, List.flatMap_nil, List.nil_append]
      rw [hcs, count_endsTo s hs j K, if_pos (by omega)]
    exact pcBad5_false (hu 0 (.inl rfl)) (hu 1 (.inr rfl))
end Go.Proofs.Yteapmddadieohaa

/- FnFlip, plain: drawn lies are right; what Drive answers when a piece is laid the other way round. Own work. -/
namespace Go.Proofs.Yteapmddadieohaa
set_option maxHeartbeats 1000000

theorem liesD_get (code : List Int) (js : List Jt) : ∀ (i k : Nat), k < i → ∃ c, (liesD code js i).1[k]? = some (if (js[k]!).kind = 3 then 1 + pickV code 2 c else 0)
  | 0, k, h => by omega
  | i + 1, k, h => by
    have hl := liesD_len code js i
    by_cases hk : k < i
    · obtain ⟨c, hc⟩ := liesD_get code js i k hk
      refine ⟨c, ?_⟩
      rw [← hc, liesD]
      split
      · exact List.getElem?_append_left (by omega)
      · exact List.getElem?_append_left (by omega)
    · obtain rfl : k = i := by omega
      refine ⟨(liesD code js k).2, ?_⟩
      rw [liesD]
      split
      · rw [List.getElem?_append_right (by omega), hl]
        simp
      · rw [List.getElem?_append_right (by omega), hl]
        simp
theorem lies_right (N : Nt) (code : List Int) : liesP N.jts (liesL N code) = true := by
  have hl : (liesL N code).length = N.jts.length := liesD_len code N.jts N.jts.length
  unfold liesP
  rw [Bool.and_eq_true]
  refine ⟨by simpa using hl, ?_⟩
  rw [List.all_eq_true]
  intro z hz
  obtain ⟨k, hk, rfl⟩ := List.getElem_of_mem hz
  have hk1 : k < N.jts.length := by simp at hk; omega
  obtain ⟨c, hc⟩ := liesD_get code N.jts N.jts.length k hk1
  have e : (liesL N code)[k]'(by omega) = if (N.jts[k]!).kind = 3 then 1 + pickV code 2 c else 0 := (List.getElem?_eq_some_iff.1 hc).2
  have e2 : N.jts[k]! = N.jts[k] := by simp [hk1]
  rw [List.getElem_zip]
  dsimp only
  rw [e, e2]
  have hp := pickV_bd (code := code) (n := 2) (by omega) c
  unfold lieOk
  split
  · rename_i h3
    rw [inR_of (by omega) (by omega), h3]
    simp
  · rw [inR_of (by omega) (by omega)]
    simp

theorem flip_A {N : Nt} {xs : List Int} {k q a wy far : Int} {x y : DRes} (hr : netOk N = (0, 0)) (hl : liesP N.jts xs = true) (hs : spotP N q a wy = true) (hf : 0 ≤ far ∧ far ≤ 1000000) (hx : DriveA N xs q a wy far x)
    (hy : DriveA (flipN k N) xs (flipS N k (q, a, wy)).1 (flipS N k (q, a, wy)).2.1 (flipS N k (q, a, wy)).2.2 far y) :
    y.code = x.code ∧ y.far = x.far ∧ y.joint = x.joint ∧ (y.q, y.at', y.way) = flipS N k (x.q, x.at', x.way) := by
  have hr' := flip_right k hr
  have hl' : liesP (flipN k N).jts xs = true := by rw [flip_lies]; exact hl
  have hs' := flip_spot (k := k) hs
  unfold DriveA at hx hy
  rw [if_pos (good_mk hr hl hs hf)] at hx
  rw [if_pos (good_mk hr' hl' hs' hf)] at hy
  obtain ⟨x0, hx0, rfl⟩ := hx
  obtain ⟨y0, hy0, rfl⟩ := hy
  obtain ⟨r', h1, h2, h3, h4, h5⟩ := drive_flip k hr hl hx0 hs hf.1 []
  obtain rfl := drive_one hr' hy0 h1
  exact ⟨h2, h3, h4, h5⟩
end Go.Proofs.Yteapmddadieohaa

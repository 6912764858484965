/- spec.l5copy: a track copied, all rows its own. Own work. -/
import Derived.Test.YtcodpnkfpmjleaaGreatDoorMxAI
import Derived.Deep.RegionLaw
import Derived.Deep.CutRange
import Derived.Deep.DeepCutAuto
namespace Go.Proofs.YtcodpnkfpmjleaaGreatDoor
open Go.RowKit
set_option maxHeartbeats 8000000

/-- The joints of a copy: each joint's ends are a row of their own. -/
structure KR (w : World) (base : Nat) (jv : Value) (js : List Jr) : Prop where
  own : w.ownsRow base 69 3 jv js.length (jtCells js)
  ends : ∀ t ∈ js, ∃ eb, t.ad = some ⟨eb, 0, none⟩ ∧ w.ownsRow base 75 2 (.slice t.ad t.jt.ends.length t.cap) t.jt.ends.length (endCells t.jt.ends)
  apart : js.Pairwise fun s t => s.ad ≠ t.ad
theorem KR.nil (w : World) (base : Nat) : KR w base (.slice none 0 0) [] := ⟨World.ownsRow_nil _ _ _ _, fun t h => by simp at h, List.Pairwise.nil⟩
theorem KR.later {w w' : World} {base : Nat} {jv : Value} {js : List Jr} (h : KR w base jv js) (hb : Below w.heap.size w w') : KR w' base jv js :=
  ⟨owns_later' h.own hb, fun t ht => by obtain ⟨eb, h1, h2⟩ := h.ends t ht; exact ⟨eb, h1, owns_later' h2 hb⟩, h.apart⟩
/-- All that the joints take lies below H. -/
def KLow (H : Nat) (jv : Value) (js : List Jr) : Prop := (∀ g, jv.ownBlock = some g → g < H) ∧ ∀ t ∈ js, ∀ eb, t.ad = some ⟨eb, 0, none⟩ → eb < H
theorem own_slice (eb n cap : Nat) : (Value.slice (some ⟨eb, 0, none⟩) n cap).ownBlock = some eb := rfl
theorem KR.low {w : World} {base : Nat} {jv : Value} {js : List Jr} (h : KR w base jv js) : KLow w.heap.size jv js := by
  refine ⟨fun g hg => (h.own.lt g hg).2, fun t ht eb he => ?_⟩
  obtain ⟨eb', h1, h2⟩ := h.ends t ht
  rw [he] at h2
  exact (h2.lt eb (own_slice _ _ _)).2
theorem KR.midUp {w w' : World} {base B C : Nat} {jv : Value} {js : List Jr} (h : KR w base jv js) (hm : Mid B C w w') (hl : KLow B jv js) : KR w' base jv js := by
  refine ⟨owns_midUp h.own hm hl.1, fun t ht => ?_, h.apart⟩
  obtain ⟨eb, h1, h2⟩ := h.ends t ht
  refine ⟨eb, h1, owns_midUp h2 hm fun g hg => ?_⟩
  rw [h1, own_slice] at hg
  obtain rfl : eb = g := by simpa using hg
  exact hl.2 t ht eb h1
theorem KR.setBelow {w : World} {base : Nat} {jv : Value} {js : List Jr} (h : KR w base jv js) {B o : Nat} (hB : B < base) (v : Value) : KR (w.setCell ⟨B, o, none⟩ v) base jv js :=
  ⟨ownsRow_setCell_below h.own (by show B < base; exact hB) v, fun t ht => by obtain ⟨eb, h1, h2⟩ := h.ends t ht; exact ⟨eb, h1, ownsRow_setCell_below h2 (by show B < base; exact hB) v⟩, h.apart⟩
/-- One joint more. -/
theorem KR.add {w w' : World} {base H eb : Nat} {jv jv' : Value} {js : List Jr} {t : Jr} (h : KR w base jv js) (hg : w.grownBy w' jv.ownBlock) (hown : w'.ownsRow base 69 3 jv' (js.length + 1) (jtCells js ++ [.int .i64 t.jt.kind, .string t.jt.name, .slice t.ad t.jt.ends.length t.cap])) (ht : t.ad = some ⟨eb, 0, none⟩) (hte : w.ownsRow base 75 2 (.slice t.ad t.jt.ends.length t.cap) t.jt.ends.length (endCells t.jt.ends)) (hl : KLow H jv js) (hH : H ≤ eb) : KR w' base jv' (js ++ [t]) := by
  refine ⟨by rw [jtCells_add, List.length_append]; exact hown, fun u hu => ?_, ?_⟩
  · rcases List.mem_append.1 hu with hu | hu
    · obtain ⟨eb, h1, h2⟩ := h.ends u hu
      exact ⟨eb, h1, owns_kept h2 h.own (by decide) hg⟩
    · have : u = t := by simpa using hu
      subst this
      exact ⟨eb, ht, owns_kept hte h.own (by decide) hg⟩
  · rw [List.pairwise_append]
    refine ⟨h.apart, by simp, fun s hs u hu => ?_⟩
    have : u = t := by simpa using hu
    subst this
    rw [ht]
    intro e
    have := hl.2 s hs eb e
    omega
theorem kjts_at_of {w : World} {base : Nat} {jv : Value} {js : List Jr} (h : KR w base jv js) : ∃ ja jcap, jv = .slice ja js.length jcap ∧ JtsAt w ja (js.map (·.jt)) := by
  rcases h.own.2 with ⟨rfl, h0⟩ | ⟨g, cap, cur, rfl, _⟩
  · refine ⟨none, 0, by rw [h0], fun k hk => by simp at hk; omega⟩
  · refine ⟨some ⟨g, 0, none⟩, cap, rfl, fun k hk => ?_⟩
    have hk' : k < js.length := by simpa using hk
    obtain ⟨h0, h1, h2⟩ := jtCells_at js k hk'
    obtain ⟨eb, e1, e2⟩ := h.ends js[k] (List.getElem_mem hk')
    have own := h.own
    simp only [List.getElem_map]
    exact ⟨g, 0, js[k].ad, js[k].cap, rfl, by rw [Nat.zero_add, own.cellAt _ (by omega), h0], by rw [Nat.zero_add, own.cellAt _ (by omega), h1], by rw [Nat.zero_add, own.cellAt _ (by omega), h2], by rw [e1] at e2 ⊢; exact ends_at_of e2 rfl⟩

/-- What lies where while a track is copied. -/
structure CW (w wr : World) (xp xj pv jv : Value) : Prop where
  x0 : wr.cell? ⟨w.heap.size, 0, none⟩ = some xp
  x1 : wr.cell? ⟨w.heap.size, 1, none⟩ = some xj
  r0 : wr.cell? ⟨w.heap.size + 1, 0, none⟩ = some (.slice none 0 0)
  r1 : wr.cell? ⟨w.heap.size + 1, 1, none⟩ = some (.slice none 0 0)
  rf0 : wr.frozen? ⟨w.heap.size + 1, 0, none⟩ = false
  rf1 : wr.frozen? ⟨w.heap.size + 1, 1, none⟩ = false
  n0 : wr.cell? ⟨w.heap.size + 1 + 1, 0, none⟩ = some pv
  n1 : wr.cell? ⟨w.heap.size + 1 + 1, 1, none⟩ = some jv
  nf0 : wr.frozen? ⟨w.heap.size + 1 + 1, 0, none⟩ = false
  nf1 : wr.frozen? ⟨w.heap.size + 1 + 1, 1, none⟩ = false
  bel : Below w.heap.size w wr
section
variable {w wr w2 : World} {xp xj pv jv : Value}
theorem CW.size (h : CW w wr xp xj pv jv) : w.heap.size + 3 ≤ wr.heap.size := cell_lt h.n0
theorem CW.mid {B C : Nat} (h : CW w wr xp xj pv jv) (hm : Mid B C wr w2) (hB : w.heap.size + 3 ≤ B) : CW w w2 xp xj pv jv where
  x0 := hm.cell (.inl (by omega)) h.x0
  x1 := hm.cell (.inl (by omega)) h.x1
  r0 := hm.cell (.inl (by omega)) h.r0
  r1 := hm.cell (.inl (by omega)) h.r1
  rf0 := hm.frozen (.inl (by omega)) h.r0 h.rf0
  rf1 := hm.frozen (.inl (by omega)) h.r1 h.rf1
  n0 := hm.cell (.inl (by omega)) h.n0
  n1 := hm.cell (.inl (by omega)) h.n1
  nf0 := hm.frozen (.inl (by omega)) h.n0 h.nf0
  nf1 := hm.frozen (.inl (by omega)) h.n1 h.nf1
  bel := ⟨hm.os.trans h.bel.os, hm.tape.trans h.bel.tape, hm.output.trans h.bel.output, Nat.le_trans h.bel.size hm.size, fun k hk => (hm.block k (by have := h.bel.size; omega) (.inl (by omega))).trans (h.bel.block k hk)⟩
theorem CW.later (h : CW w wr xp xj pv jv) (hb : Below wr.heap.size wr w2) : CW w w2 xp xj pv jv := h.mid (Mid.of_below (B := w.heap.size + 3) (C := w.heap.size + 3) hb) (Nat.le_refl _)
theorem CW.grown {row : Option Nat} (h : CW w wr xp xj pv jv) (hg : wr.grownBy w2 row) (hrow : ∀ g, row = some g → w.heap.size + 3 ≤ g) : CW w w2 xp xj pv jv := by
  have hne : ∀ B, B < w.heap.size + 3 → some B ≠ row := fun B hB e => by have := hrow B e.symm; omega
  have hc : ∀ (B o : Nat) (v : Value), B < w.heap.size + 3 → wr.cell? ⟨B, o, none⟩ = some v → w2.cell? ⟨B, o, none⟩ = some v := fun B o v hB hv => hg.cell hv (hne B hB)
  have hf : ∀ (B o : Nat) (v : Value), B < w.heap.size + 3 → wr.cell? ⟨B, o, none⟩ = some v → wr.frozen? ⟨B, o, none⟩ = false → w2.frozen? ⟨B, o, none⟩ = false := fun B o v hB hv hz => by
    rw [hg.frozen_far ⟨B, o, none⟩ (cell_lt hv) (hne B hB)]; exact hz
  exact { x0 := hc _ _ _ (by omega) h.x0
          x1 := hc _ _ _ (by omega) h.x1
          r0 := hc _ _ _ (by omega) h.r0
          r1 := hc _ _ _ (by omega) h.r1
          rf0 := hf _ _ _ (by omega) h.r0 h.rf0
          rf1 := hf _ _ _ (by omega) h.r1 h.rf1
          n0 := hc _ _ _ (by omega) h.n0
          n1 := hc _ _ _ (by omega) h.n1
          nf0 := hf _ _ _ (by omega) h.n0 h.nf0
          nf1 := hf _ _ _ (by omega) h.n1 h.nf1
          bel := ⟨hg.os.trans h.bel.os, hg.tape.trans h.bel.tape, hg.output.trans h.bel.output, Nat.le_trans h.bel.size hg.size, fun k hk => (hg.block k (by have := h.bel.size; omega) (hne k (by omega))).trans (h.bel.block k hk)⟩ }
theorem CW.set0 (h : CW w wr xp xj pv jv) (v : Value) : CW w (wr.setCell ⟨w.heap.size + 1 + 1, 0, none⟩ v) xp xj v jv := by
  obtain ⟨x0, x1, r0, r1, rf0, rf1, n0, n1, nf0, nf1, bel⟩ := h
  exact { x0 := by simp [go_sem, x0], x1 := by simp [go_sem, x1], r0 := by simp [go_sem, r0], r1 := by simp [go_sem, r1], rf0 := by simp [go_sem, rf0], rf1 := by simp [go_sem, rf1], n0 := by simp [go_sem, n0], n1 := by simp [go_sem, n1], nf0 := by simp [go_sem, nf0], nf1 := by simp [go_sem, nf1], bel := bel.setCell (by simp; omega) _ }
theorem CW.set1 (h : CW w wr xp xj pv jv) (v : Value) : CW w (wr.setCell ⟨w.heap.size + 1 + 1, 1, none⟩ v) xp xj pv v := by
  obtain ⟨x0, x1, r0, r1, rf0, rf1, n0, n1, nf0, nf1, bel⟩ := h
  exact { x0 := by simp [go_sem, x0], x1 := by simp [go_sem, x1], r0 := by simp [go_sem, r0], r1 := by simp [go_sem, r1], rf0 := by simp [go_sem, rf0], rf1 := by simp [go_sem, rf1], n0 := by simp [go_sem, n0], n1 := by simp [go_sem, n1], nf0 := by simp [go_sem, nf0], nf1 := by simp [go_sem, nf1], bel := bel.setCell (by simp; omega) _ }
end

theorem owns_mono {w : World} {base base' : Nat} {e : TypeId} {size : Nat} {v : Value} {n : Nat} {xs : List Value} (h : w.ownsRow base e size v n xs) (hb : base' ≤ base) : w.ownsRow base' e size v n xs := by
  refine ⟨h.1, ?_⟩
  rcases h.2 with h | ⟨g, cap, cur, rfl, hbg, rest⟩
  · exact .inl h
  · exact .inr ⟨g, cap, cur, rfl, by omega, rest⟩
/-- Between two ends of a joint that is copied. -/
def L5E (bj : Nat) (kd : Int) (nm : ByteArray) (W5 wx : World) (es : List (Int × Int)) (i : Value) : Prop :=
  ∃ (x : Nat) (v : Value), x ≤ es.length ∧ i = .int .i64 x ∧ Mid bj (bj + 1) W5 wx ∧ (wx.cell? ⟨bj, 0, none⟩ = some (.int .i64 kd) ∧ wx.cell? ⟨bj, 1, none⟩ = some (.string nm) ∧ wx.cell? ⟨bj, 2, none⟩ = some v) ∧ (∀ o, wx.frozen? ⟨bj, o, none⟩ = false) ∧ wx.ownsRow (bj + 1) 75 2 v x (endCells (es.take x))
/-- Between two joints of a copy. -/
def L6E (w wx : World) (xp xj pv : Value) (N : Nt) (i : Value) : Prop :=
  ∃ (k : Nat) (jv : Value) (js : List Jr), k ≤ N.jts.length ∧ i = .int .i64 k ∧ js.map (·.jt) = N.jts.take k ∧ CW w wx xp xj pv jv ∧ wx.ownsRow (w.heap.size + 3) 63 4 pv N.pcs.length (pcCells N.pcs) ∧ KR wx (w.heap.size + 3) jv js

/-- What l5copy answers. -/
def CopyPost (N : Nt) (w : World) (e : Ending) (w' : World) : Prop :=
  ∃ (pa ja : Option Addr) (pcap jcap : Nat) (js : List Jr), js.map (·.jt) = N.jts ∧ e = .returned (.agg #[.slice pa N.pcs.length pcap, .slice ja N.jts.length jcap]) ∧ w'.ownsRow (w.heap.size + 3) 63 4 (.slice pa N.pcs.length pcap) N.pcs.length (pcCells N.pcs) ∧ KR w' (w.heap.size + 3) (.slice ja N.jts.length jcap) js ∧ Below w.heap.size w w'

set_option maxRecDepth 20000 in
theorem l5copy_any (a a' : Option Addr) (N : Nt) (cap cap' : Nat) (w : World) (hn : N.pcs.length ≤ 1000) (hl : N.jts.length ≤ 1000) (hje : ∀ j ∈ N.jts, 0 < j.ends.length ∧ j.ends.length ≤ 1000) (hp : PcsAt w a N.pcs) (hj : JtsAt w a' N.jts) :
    Calls Tryz.prog 75 #[.agg #[.slice a N.pcs.length cap, .slice a' N.jts.length cap']] w fun e w' => CopyPost N w e w' := by
  obtain ⟨iP, hiP, zP0, zP1, zP2⟩ := infos info_Piece
  obtain ⟨iE, hiE, zE0, zE1, zE2⟩ := infos info_End
  obtain ⟨iJ, hiJ, zJ0, zJ1, zJ2⟩ := infos info_Joint
  have HIP := hide hiP
  have HZP0 := hide zP0
  have HZP1 := hide zP1
  have HZP2 := hide zP2
  have HIE := hide hiE
  have HZE0 := hide zE0
  have HZE1 := hide zE1
  have HZE2 := hide zE2
  have HIJ := hide hiJ
  have HZJ0 := hide zJ0
  have HZJ1 := hide zJ1
  have HZJ2 := hide zJ2
  have HP := hide hp
  have HJ := hide hj
  have HJE := hide hje
  clear hiP zP0 zP1 zP2 hiE zE0 zE1 zE2 hiJ zJ0 zJ1 zJ2 hp hj hje
  go_enter Tryz.func75, Tryz.ntmps75
  go_wp2_with fail
  go_loopw [5, 14] (fun _ i wr => ∃ (k : Nat) (pv : Value), k ≤ N.pcs.length ∧ i = .int .i64 k ∧ Hid (CW w wr (.slice a N.pcs.length cap) (.slice a' N.jts.length cap') pv (.slice none 0 0)) ∧ Hid (wr.ownsRow (w.heap.size + 3) 63 4 pv k (pcCells (N.pcs.take k)))) (fun _ i _ => N.pcs.length - (intOf i).toNat)
  case atStart =>
    refine ⟨0, .slice none 0 0, Nat.zero_le _, rfl, ?_, World.ownsRow_nil _ _ _ _⟩
    exact ⟨by simp [go_sem], by simp [go_sem], by simp [go_sem], by simp [go_sem], by simp [go_sem], by simp [go_sem], by simp [go_sem], by simp [go_sem], by simp [go_sem], by simp [go_sem], (((Below.refl _ _).alloc (Nat.le_refl _) _).alloc (by simp) _).alloc (by simp; omega) _⟩
  case round =>
    obtain ⟨k, pv, hk, rfl, HC, HPR⟩ := hrel
    by_cases hlt : k < N.pcs.length
    · obtain ⟨b, off, rfl, c0, c1, c2, c3⟩ := (HP.out.later HC.out.bel) k hlt
      have hblt := cell_lt c0
      have n0 := HC.out.n0
      have nf0 := HC.out.nf0
      have hz := HC.out.size
      have hki : (k : Int) < (N.pcs.length : Int) := by omega
      have HTK := hide (show N.pcs.take (k + 1) = N.pcs.take k ++ [N.pcs[k]] from List.take_succ_eq_append_getElem hlt)
      generalize N.pcs[k] = p at c0 c1 c2 c3 HTK
      have hml : k + 1 ≤ maxLen := by unfold maxLen; omega
      go_upto_region 5 with fail
      have HC1 := hide (HC.out.later ((Below.refl wr.heap.size wr).alloc (Nat.le_refl _) (.cells #[.string p.name, .int .i64 p.len, .int .i64 p.speed, .int .i64 p.brake] 63)))
      have HPR1 := hide (HPR.out.alloc (.cells #[.string p.name, .int .i64 p.len, .int .i64 p.speed, .int .i64 p.brake] 63))
      have n0 := HC1.out.n0
      have nf0 := HC1.out.nf0
      have q0 := new_cell wr #[.string p.name, .int .i64 p.len, .int .i64 p.speed, .int .i64 p.brake] 63 0 _ rfl
      have q1 := new_cell wr #[.string p.name, .int .i64 p.len, .int .i64 p.speed, .int .i64 p.brake] 63 1 _ rfl
      have q2 := new_cell wr #[.string p.name, .int .i64 p.len, .int .i64 p.speed, .int .i64 p.brake] 63 2 _ rfl
      have q3 := new_cell wr #[.string p.name, .int .i64 p.len, .int .i64 p.speed, .int .i64 p.brake] 63 3 _ rfl
      have hz1 : wr.heap.size < (wr.alloc (.cells #[.string p.name, .int .i64 p.len, .int .i64 p.speed, .int .i64 p.brake] 63)).heap.size := by simp
      clear c0 c1 c2 c3
      generalize wr.alloc (.cells #[.string p.name, .int .i64 p.len, .int .i64 p.speed, .int .i64 p.brake] 63) = W1 at *
      have hlW := cell_lt n0
      go_wp2_with (first
        | (at_builtin; (refine wpList_append_lies _ rfl _ _ _ rfl (w.heap.size + 3) 63 iP _ 4 40 Tryz.underlying23 HIP.out HZP0.out HZP1.out HZP2.out rfl (by omega) pv k (pcCells (N.pcs.take k)) rfl (HPR1.out.alloc _) ⟨_, 0, none⟩ 1 1 [.string p.name, .int .i64 p.len, .int .i64 p.speed, .int .i64 p.brake] rfl rfl (news_at rfl) (by simp [Value.oneCell']) (by omega) hml (by omega) (by simp; omega) _ rfl ?_); intro g2 cp2 w7 hown2 hgrow2 _ _; have HLT := hide (fun g h => (HPR.out.lt g h).1); have HC7 := hide ((HC1.out.later ((Below.refl _ _).alloc (Nat.le_refl _) _)).grown hgrow2 HLT.out); have n7 := HC7.out.n0; have nf7 := HC7.out.nf0))
      all_goals
        refine ⟨⟨k + 1, .slice (some ⟨g2, 0, none⟩) (k + 1) cp2, by omega, by go_num, HC7.out.set0 _, ?_⟩, by simp [intOf]; omega⟩
        show World.ownsRow _ _ _ _ _ _ _
        rw [HTK.out, pcCells_add]
        exact ownsRow_setCell_below hown2 (by show w.heap.size + 2 < w.heap.size + 3; omega) _
    · have hke : k = N.pcs.length := by omega
      subst hke
      have HPW := hide (show wr.ownsRow (w.heap.size + 3) 63 4 pv N.pcs.length (pcCells N.pcs) by
        have h := HPR.out
        rw [List.take_length] at h
        exact h)
      clear HPR hlt
      have x1 := HC.out.x1
      have hkf : decide ((N.pcs.length : Int) < (N.pcs.length : Int)) = false := by rw [decide_eq_false_iff_not]; omega
      go_wp2_with fail
      go_loopw [7, 8, 10, 28] (fun _ _ _ i wx => L6E w wx (.slice a N.pcs.length cap) (.slice a' N.jts.length cap') pv N i) (fun _ _ _ i _ => N.jts.length - (intOf i).toNat)
      case atStart => exact ⟨0, .slice none 0 0, [], Nat.zero_le _, rfl, rfl, HC.out, HPW.out, KR.nil _ _⟩
      case round =>
        clear HC HPW x1
        obtain ⟨k, jv, js, hk, rfl, hmap, hC, hPW, hKR⟩ := hrel
        have HMAP := hide hmap
        have HC := hide hC
        have HPW := hide hPW
        have HKR := hide hKR
        clear hmap hC hPW hKR
        have hjsl : js.length = k := by
          have := congrArg List.length HMAP.out
          simp at this
          omega
        by_cases hlt : k < N.jts.length
        · obtain ⟨b, off, ea, ecap, rfl, c0, c1, c2, hE⟩ := (HJ.out.later HC.out.bel) k hlt
          have HE := hide hE
          clear hE
          have hblt := cell_lt c0
          have hki : (k : Int) < (N.jts.length : Int) := by omega
          have hje := HJE.out N.jts[k] (List.getElem_mem hlt)
          have HTK := hide (show N.jts.take (k + 1) = N.jts.take k ++ [N.jts[k]] from List.take_succ_eq_append_getElem hlt)
          generalize N.jts[k] = j at c0 c1 c2 HE hje HTK
          obtain ⟨kd, nm, es⟩ := j
          dsimp only at c0 c1 c2 HE hje
          go_upto_region 10 with fail
          have hb1 : Below wr.heap.size wr (wr.alloc (.cells #[.int .i64 kd, .string nm, .slice ea es.length ecap] 69)) := (Below.refl wr.heap.size wr).alloc (Nat.le_refl _) _
          have q0 := new_cell wr #[.int .i64 kd, .string nm, .slice ea es.length ecap] 69 0 _ rfl
          have q1 := new_cell wr #[.int .i64 kd, .string nm, .slice ea es.length ecap] 69 1 _ rfl
          have q2 := new_cell wr #[.int .i64 kd, .string nm, .slice ea es.length ecap] 69 2 _ rfl
          have hz1 : (wr.alloc (.cells #[.int .i64 kd, .string nm, .slice ea es.length ecap] 69)).heap.size = wr.heap.size + 1 := by simp
          clear c0 c1 c2
          generalize wr.alloc (.cells #[.int .i64 kd, .string nm, .slice ea es.length ecap] 69) = W1 at *
          have hlq := cell_lt q0
          go_upto_region 11 with fail
          have hb5 : Below wr.heap.size wr (W1.alloc (.cells #[.int .i64 kd, .string nm, .slice none 0 0] 69)) := hb1.alloc (by omega) _
          have j0 := new_cell W1 #[.int .i64 kd, .string nm, .slice none 0 0] 69 0 _ rfl
          have j1 := new_cell W1 #[.int .i64 kd, .string nm, .slice none 0 0] 69 1 _ rfl
          have j2 := new_cell W1 #[.int .i64 kd, .string nm, .slice none 0 0] 69 2 _ rfl
          have jf : ∀ o, (W1.alloc (.cells #[.int .i64 kd, .string nm, .slice none 0 0] 69)).frozen? ⟨W1.heap.size, o, none⟩ = false := fun o => by simp [go_sem]
          rw [hz1] at j0 j1 j2
          simp only [hz1] at jf
          have HJF := hide jf
          have hz5 : (W1.alloc (.cells #[.int .i64 kd, .string nm, .slice none 0 0] 69)).heap.size = W1.heap.size + 1 := by simp
          have q0 := cell_later' ((Below.refl W1.heap.size W1).alloc (Nat.le_refl _) (.cells #[.int .i64 kd, .string nm, .slice none 0 0] 69)) q0
          have q2 := cell_later' ((Below.refl W1.heap.size W1).alloc (Nat.le_refl _) (.cells #[.int .i64 kd, .string nm, .slice none 0 0] 69)) q2
          have HC5 := hide (HC.out.later hb5)
          have HPW5 := hide (owns_later' HPW.out hb5)
          have HKR5 := hide (HKR.out.later hb5)
          have HKL := hide HKR.out.low
          have HPL := hide (fun g' (h : pv.ownBlock = some g') => (HPW.out.lt g' h).2)
          have HE5 := hide (HE.out.later hb5)
          have HEB := hide (show ∀ x (hx : x < es.length), ∃ xb xo, ea = some ⟨xb, xo, none⟩ ∧ xb < wr.heap.size from fun x hx => by
            obtain ⟨xb, xo, h1, h2, _⟩ := HE.out x hx
            exact ⟨xb, xo, h1, cell_lt h2⟩)
          have hwz0 := HC.out.size
          clear jf hb1 hb5 HC HPW HKR HE
          generalize W1.alloc (.cells #[.int .i64 kd, .string nm, .slice none 0 0] 69) = W5 at *
          have hwz := HC5.out.size
          generalize hbj : wr.heap.size + 1 = bj at *
          go_wp2_with fail
          go_loopw [10, 40] (fun _ i wx => L5E bj kd nm W5 wx es i) (fun _ i _ => es.length - (intOf i).toNat)
          case atStart => exact ⟨0, .slice none 0 0, Nat.zero_le _, rfl, Mid.refl _ _ _, ⟨j0, j1, j2⟩, HJF.out, World.ownsRow_nil _ _ _ _⟩
          case round =>
            obtain ⟨x, v, hx, rfl, hMD, ⟨k0, k1, k2⟩, hFZ, hOW⟩ := hrel
            have HMD := hide hMD
            have HFZ := hide hFZ
            have HOW := hide hOW
            clear hMD hFZ hOW
            have hbjl := cell_lt k0
            by_cases hxe : x < es.length
            · obtain ⟨xb, xo, hxa, e0, e1⟩ := HE5.out x hxe
              obtain ⟨xb', xo', hxa', hxl⟩ := HEB.out x hxe
              obtain ⟨rfl, rfl⟩ : xb = xb' ∧ xo = xo' := by rw [hxa] at hxa'; simpa using hxa'
              subst hxa
              have e0 := HMD.out.cell (.inl (by omega)) e0
              have e1 := HMD.out.cell (.inl (by omega)) e1
              have hxi : (x : Int) < (es.length : Int) := by omega
              have hglx := cell_lt e0
              have HTX := hide (show es.take (x + 1) = es.take x ++ [es[x]] from List.take_succ_eq_append_getElem hxe)
              generalize es[x] = ex at e0 e1 HTX
              clear hxa'
              have hml : x + 1 ≤ maxLen := by unfold maxLen; omega
              have HLT := hide (fun g h => (HOW.out.lt g h).1)
              have HNE := hide (show some bj ≠ v.ownBlock from fun e => by have := HLT.out bj e.symm; omega)
              go_upto_region 14 with fail
              have hb2 : Below wr.heap.size wr (wr.alloc (.cells #[.int .i64 ex.1, .int .i64 ex.2] 75)) := (Below.refl wr.heap.size wr).alloc (Nat.le_refl _) _
              have p0 := new_cell wr #[.int .i64 ex.1, .int .i64 ex.2] 75 0 _ rfl
              have p1 := new_cell wr #[.int .i64 ex.1, .int .i64 ex.2] 75 1 _ rfl
              have k0 := cell_later' hb2 k0
              have k1 := cell_later' hb2 k1
              have k2 := cell_later' hb2 k2
              have HFZ2 := hide (show ∀ o, (wr.alloc (.cells #[.int .i64 ex.1, .int .i64 ex.2] 75)).frozen? ⟨bj, o, none⟩ = false from fun o => (hb2.frozen (p := ⟨bj, o, none⟩) hbjl).trans (HFZ.out o))
              have HOW2 := hide (HOW.out.alloc (.cells #[.int .i64 ex.1, .int .i64 ex.2] 75))
              have HMD2 := hide (HMD.out.trans (Mid.of_below hb2))
              have fz2 := HFZ2.out 2
              clear e0 e1 hb2 HFZ HOW HMD
              generalize wr.alloc (.cells #[.int .i64 ex.1, .int .i64 ex.2] 75) = W2 at *
              have hbj2 := cell_lt k0
              have hp2 := cell_lt p0
              go_wp2_with (first
                | (at_builtin; (refine wpList_append_lies _ rfl _ _ _ rfl (bj + 1) 75 iE _ 2 16 Tryz.underlying67 HIE.out HZE0.out HZE1.out HZE2.out rfl (by omega) v x (endCells (es.take x)) rfl (HOW2.out.alloc _) ⟨_, 0, none⟩ 1 1 [.int .i64 ex.1, .int .i64 ex.2] rfl rfl (news_at rfl) (by simp [Value.oneCell']) (by omega) hml (by omega) (by simp; omega) _ rfl ?_); intro g2 cp2 w7 hown2 hgrow2 _ _; have m2 := hgrow2.cell (cell_later' ((Below.refl W2.heap.size W2).alloc (Nat.le_refl _) _) k2) HNE.out; have mf2 := (hgrow2.frozen_far ⟨bj, 2, none⟩ (by show bj < _; simp; omega) HNE.out).trans (frozen_later ((Below.refl W2.heap.size W2).alloc (Nat.le_refl _) _) k2 fz2)))
              all_goals
                refine ⟨⟨x + 1, .slice (some ⟨g2, 0, none⟩) (x + 1) cp2, by omega, by go_num, ?_, ⟨?_, ?_, ?_⟩, ?_, ?_⟩, by simp [intOf]; omega⟩
                · exact ((HMD2.out.trans (Mid.of_below ((Below.refl W2.heap.size W2).alloc (Nat.le_refl _) _))).grown hgrow2 (fun g e => by have := HLT.out g e; omega)).setCell (Nat.le_refl _) (by omega) _
                · have := hgrow2.cell (cell_later' ((Below.refl W2.heap.size W2).alloc (Nat.le_refl _) _) k0) HNE.out
                  simp [go_sem, this]
                · have := hgrow2.cell (cell_later' ((Below.refl W2.heap.size W2).alloc (Nat.le_refl _) _) k1) HNE.out
                  simp [go_sem, this]
                · simp [go_sem, m2]
                · intro o
                  have := (hgrow2.frozen_far ⟨bj, o, none⟩ (by show bj < _; simp; omega) HNE.out).trans ((((Below.refl W2.heap.size W2).alloc (Nat.le_refl _) _).frozen (p := ⟨bj, o, none⟩) hbj2).trans (HFZ2.out o))
                  simp [go_sem, this]
                · rw [HTX.out, endCells_add1]
                  exact ownsRow_setCell_below hown2 (by show bj < bj + 1; omega) _
            · have hxx : x = es.length := by omega
              subst hxx
              obtain ⟨eb, ec, hv, heb1, heb2⟩ := HOW.out.form (by omega)
              subst hv
              have hxk : decide ((es.length : Int) < (es.length : Int)) = false := by rw [decide_eq_false_iff_not]; omega
              have HC6 := hide (HC5.out.mid HMD.out (by omega))
              have HPW6 := hide (owns_midUp HPW5.out HMD.out (fun g h => by have := HPL.out g h; omega))
              have HKL6 := hide (show KLow bj jv js from ⟨fun g h => by have := HKL.out.1 g h; omega, fun t ht eb he => by have := HKL.out.2 t ht eb he; omega⟩)
              have HKR6 := hide (HKR5.out.midUp HMD.out HKL6.out)
              have HOE := hide (show wr.ownsRow (w.heap.size + 3) 75 2 (.slice (some ⟨eb, 0, none⟩) es.length ec) es.length (endCells es) by
                have h := HOW.out
                rw [List.take_length] at h
                exact owns_mono h (by omega))
              have n1 := HC6.out.n1
              have nf1 := HC6.out.nf1
              have hn1l := cell_lt n1
              have hml3 : js.length + 1 ≤ maxLen := by unfold maxLen; omega
              clear HC5 HPW5 HKR5 HOW HJF j0 j1 j2 q0 q2
              go_wp2_with (first
                | (at_builtin; (refine wpList_append_lies _ rfl _ _ _ rfl (w.heap.size + 3) 69 iJ _ 3 48 Tryz.underlying24 HIJ.out HZJ0.out HZJ1.out HZJ2.out rfl (by omega) jv js.length (jtCells js) rfl (HKR6.out.own.alloc _) ⟨_, 0, none⟩ 1 1 [.int .i64 kd, .string nm, .slice (some ⟨eb, 0, none⟩) es.length ec] rfl rfl (news_at rfl) (by simp [Value.oneCell']) (by omega) hml3 (by omega) (by simp; omega) _ rfl ?_); intro g3 cp3 w9 hown3 hgrow3 _ _; have HLT3 := hide (fun g h => (HKR6.out.own.lt g h).1); have HC9 := hide ((HC6.out.later ((Below.refl _ _).alloc (Nat.le_refl _) _)).grown hgrow3 HLT3.out); have p1 := HC9.out.n1; have pf1 := HC9.out.nf1; have hp1l := cell_lt p1))
              all_goals
                refine ⟨⟨k + 1, .slice (some ⟨g3, 0, none⟩) (k + 1) cp3, js ++ [⟨⟨kd, nm, es⟩, some ⟨eb, 0, none⟩, ec⟩], by omega, by go_num, ?_, HC9.out.set1 _, ?_, ?_⟩, by simp [intOf]; omega⟩
                · rw [List.map_append, HMAP.out, HTK.out]; rfl
                · exact ownsRow_setCell_below (owns_kept (HPW6.out.alloc _) (HKR6.out.own.alloc _) (by decide) hgrow3) (by show w.heap.size + 2 < w.heap.size + 3; omega) _
                · exact (KR.add (t := ⟨⟨kd, nm, es⟩, some ⟨eb, 0, none⟩, ec⟩) (HKR6.out.later ((Below.refl wr.heap.size wr).alloc (Nat.le_refl _) _)) hgrow3 (by rw [hjsl] at hown3 ⊢; exact hown3) rfl (HOE.out.alloc _) HKL6.out (by omega)).setBelow (by omega) _
        · have hke : k = N.jts.length := by omega
          subst hke
          obtain ⟨pa, pcap, hpv, _⟩ := pcs_at_of HPW.out
          obtain ⟨ja, jcap, hjv, _⟩ := kjts_at_of HKR.out
          subst hpv
          rw [hjsl] at hjv
          subst hjv
          have r0 := HC.out.r0
          have r1 := HC.out.r1
          have rf0 := HC.out.rf0
          have rf1 := HC.out.rf1
          have n0 := HC.out.n0
          have n1 := HC.out.n1
          have hkf2 : decide ((N.jts.length : Int) < (N.jts.length : Int)) = false := by rw [decide_eq_false_iff_not]; omega
          have HB9 := hide (show Below w.heap.size w ((wr.setCell ⟨w.heap.size + 1, 0, none⟩ (.slice pa N.pcs.length pcap)).setCell ⟨w.heap.size + 1, 1, none⟩ (.slice ja N.jts.length jcap)) from (HC.out.bel.setCell (by simp) _).setCell (by simp) _)
          have HPR9 := hide (ownsRow_setCell_below (ownsRow_setCell_below HPW.out (a := (⟨w.heap.size + 1, 0, none⟩ : Addr)) (by show w.heap.size + 1 < w.heap.size + 3; omega) (.slice pa N.pcs.length pcap)) (a := (⟨w.heap.size + 1, 1, none⟩ : Addr)) (by show w.heap.size + 1 < w.heap.size + 3; omega) (.slice ja N.jts.length jcap))
          have HKR9 := hide ((HKR.out.setBelow (B := w.heap.size + 1) (o := 0) (by omega) (.slice pa N.pcs.length pcap)).setBelow (B := w.heap.size + 1) (o := 1) (by omega) (.slice ja N.jts.length jcap))
          have HMP := hide (show js.map (·.jt) = N.jts by rw [HMAP.out, List.take_length])
          go_wp2_with fail
          refine bodyPost_ret (v := .agg #[.slice pa N.pcs.length pcap, .slice ja N.jts.length jcap]) (by simp [results, Tryz.results75, go_sem, r0, r1]) rfl ?_
          exact ⟨pa, ja, pcap, jcap, js, HMP.out, rfl, HPR9.out, HKR9.out, HB9.out⟩
end Go.Proofs.YtcodpnkfpmjleaaGreatDoor

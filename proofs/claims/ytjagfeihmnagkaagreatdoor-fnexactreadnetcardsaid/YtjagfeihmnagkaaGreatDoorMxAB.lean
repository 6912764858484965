import Derived.Test.YtjagfeihmnagkaaGreatDoorTo
namespace Go.Proofs.YtjagfeihmnagkaaGreatDoor
open Go.RowKit
set_option maxHeartbeats 1000000

/-- Of the blocks that were there only some from B to below C have turned. -/
structure Mid (B C : Nat) (w w' : World) : Prop where
  os : w'.os = w.os
  tape : w'.tape = w.tape
  output : w'.output = w.output
  size : w.heap.size ≤ w'.heap.size
  block : ∀ k, k < w.heap.size → (k < B ∨ C ≤ k) → w'.heap[k]? = w.heap[k]?

theorem Mid.refl (B C : Nat) (w : World) : Mid B C w w := ⟨rfl, rfl, rfl, Nat.le_refl _, fun _ _ _ => rfl⟩
theorem Mid.trans {B C : Nat} {a b c : World} (h : Mid B C a b) (k : Mid B C b c) : Mid B C a c :=
  ⟨k.os.trans h.os, k.tape.trans h.tape, k.output.trans h.output, Nat.le_trans h.size k.size, fun i hi hc => (k.block i (Nat.lt_of_lt_of_le hi h.size) hc).trans (h.block i hi hc)⟩
theorem Mid.wide {B C B' C' : Nat} {w w' : World} (h : Mid B C w w') (hB : B' ≤ B) (hC : C ≤ C') : Mid B' C' w w' :=
  ⟨h.os, h.tape, h.output, h.size, fun k hk hc => h.block k hk (by omega)⟩
theorem Mid.of_below {B C : Nat} {w w' : World} (h : Below w.heap.size w w') : Mid B C w w' := ⟨h.os, h.tape, h.output, h.size, fun k hk _ => h.block k hk⟩
theorem Mid.setCell {B C : Nat} {a w : World} (h : Mid B C a w) {b o : Nat} (hB : B ≤ b) (hC : b < C) (u : Value) : Mid B C a (w.setCell ⟨b, o, none⟩ u) :=
  h.trans ⟨rfl, rfl, rfl, by simp [World.setCell], fun k _ hc => Below.heap_setCell _ _ _ _ (by show k ≠ b; omega)⟩
theorem Mid.below {B C : Nat} {w w' : World} (h : Mid B C w w') (hB : B ≤ w.heap.size) : Below B w w' := ⟨h.os, h.tape, h.output, h.size, fun k hk => h.block k (by omega) (by omega)⟩
theorem Mid.cell {B C : Nat} {w w' : World} (h : Mid B C w w') {b o : Nat} {v : Value} (hb : b < B ∨ C ≤ b) (hc : w.cell? ⟨b, o, none⟩ = some v) : w'.cell? ⟨b, o, none⟩ = some v := by
  rw [World.cell?_of_block (w := w) (w' := w') (a := ⟨b, o, none⟩) (h.block b (cell_lt hc) hb)]; exact hc
theorem Mid.row {B C : Nat} {w w' : World} (h : Mid B C w w') {b n : Nat} {t : TypeId} (hb : b < B ∨ C ≤ b) (hr : Row w b t n) : Row w' b t n := by
  obtain ⟨f, hf⟩ := hr
  exact ⟨f, hf.of_block (h.block b hf.lt hb)⟩

/-- A list of ends that a call has made, or none. -/
def OwnEnds (w : World) (a : Option Addr) (n : Nat) : Prop := n = 0 ∨ ∃ b, a = some ⟨b, 0, none⟩ ∧ Row w b 60 (n * 2)
def Marked (w : World) (a : Option Addr) (n : Nat) (k : Int) : Prop := ∀ i, i < n → ∃ b, a = some ⟨b, 0, none⟩ ∧ w.cell? ⟨b, i * 2, none⟩ = some (.int .i64 (k + 2 * i)) ∧ w.cell? ⟨b, i * 2 + 1, none⟩ = some (.int .i64 (k + 2 * i + 1))

theorem markEndS_some (b n cap : Nat) (k : Int) (w : World) (hn : n ≤ 1048576) (h0 : 0 ≤ k) (h1 : k ≤ 1125899906842624) (hr : Row w b 60 (n * 2)) :
    Calls Tryz.prog 54 #[.slice (some ⟨b, 0, none⟩) n cap, .int .i64 k] w fun e w' =>
    e = .returned (.int .i64 (k + 2 * n)) ∧ Mid b (b + 1) w w' ∧ Row w' b 60 (n * 2) ∧ Marked w' (some ⟨b, 0, none⟩) n k := by
  have HR := hide hr
  clear hr
  go_enter Tryz.func54, Tryz.ntmps54
  go_wp2
  go_loopw [1, 5] (fun q i wr => ∃ (t : Nat) (f : Nat → Value), t ≤ n ∧ i = .int .i64 t ∧ q = .int .i64 (k + 2 * t) ∧ Hid (wr.rowIs b 60 (n * 2) f) ∧ Hid (∀ j, j < t → f (j * 2) = .int .i64 (k + 2 * j) ∧ f (j * 2 + 1) = .int .i64 (k + 2 * j + 1)) ∧ Mid b (b + 1) w wr) (fun _ i _ => n - (intOf i).toNat)
  case atStart =>
    obtain ⟨f, hf⟩ := HR.out
    exact ⟨0, f, Nat.zero_le _, rfl, by simp, hf, (fun j hj => by omega), Mid.refl _ _ _⟩
  case round =>
    obtain ⟨t, f, ht, rfl, rfl, hf, hfs, hm⟩ := hrel
    by_cases hlt : t < n
    · have d0 := hf.out.cell (i := t * 2) (by omega)
      have d1 := hf.out.cell (i := t * 2 + 1) (by omega)
      have z0 := hf.out.frozen (t * 2)
      have z1 := hf.out.frozen (t * 2 + 1)
      go_wp2
      go_roundw
      case rel =>
        refine ⟨t + 1, _, by omega, by go_num, ?_, (hf.out.set _ _).set _ _, ?_, (hm.setCell (Nat.le_refl _) (by omega) _).setCell (Nat.le_refl _) (by omega) _⟩
        · congr 1; omega
        · intro j hj
          by_cases e : j = t
          · subst e
            constructor
            · rw [if_neg (by omega), if_pos rfl]
            · rw [if_pos rfl]
          · have := hfs.out j (by omega)
            constructor
            · rw [if_neg (by omega), if_neg (by omega)]; exact this.1
            · rw [if_neg (by omega), if_neg (by omega)]; exact this.2
      case measure => simp [intOf]; omega
    · obtain rfl : t = n := by omega
      go_wp2
      go_ret
      refine ⟨rfl, hm, ⟨f, hf.out⟩, ?_⟩
      intro i hi
      have := hfs.out i hi
      exact ⟨b, rfl, by rw [hf.out.cell (by omega), this.1], by rw [hf.out.cell (by omega), this.2]⟩

theorem markEndS_none (a : Option Addr) (cap : Nat) (k : Int) (w : World) :
    Calls Tryz.prog 54 #[.slice a 0 cap, .int .i64 k] w fun e w' => e = .returned (.int .i64 k) ∧ w = w' := by
  go_enter Tryz.func54, Tryz.ntmps54
  go_wp2
  go_loop [1, 5] (fun q i => q = .int .i64 k ∧ i = .int .i64 0) (fun _ i => 0)
  case atStart => exact ⟨rfl, rfl⟩
  case round =>
    obtain ⟨rfl, rfl⟩ := hrel
    go_wp2
    go_ret
    exact ⟨rfl, rfl⟩
end Go.Proofs.YtjagfeihmnagkaaGreatDoor

namespace Go.Proofs.YtjagfeihmnagkaaGreatDoor
open Go.RowKit
set_option maxHeartbeats 1000000

theorem conv1 (wr : World) (x : Int) : (convert 49 9 (.slice (some ⟨wr.heap.size, 0, none⟩) 1 1)).run Tryz.prog (wr.alloc (.cells #[.int .u8 x] 5)) = .ok (.string (ByteArray.empty.push (UInt8.ofNat x.toNat))) (wr.alloc (.cells #[.int .u8 x] 5)) := by
  rw [run_convert_bytes_string _ _ _ _ _ _ _ Tryz.underlying49 Tryz.underlying5 Tryz.underlying9]
  rw [run_bytesToString _ _ _ _ [x] (by simp [loadCells, go_sem])]
  rfl

def md : Nat → Int → ByteArray → ByteArray
  | 0, _, s => s
  | f + 1, n, s => if n ≤ 0 then s else md f (n / 10) (ByteArray.empty.push (UInt8.ofNat (48 + n % 10).toNat) ++ s)

theorem md_fuel (f : Nat) : ∀ (g : Nat) (n : Int) (s : ByteArray), n.toNat < f → n.toNat < g → md f n s = md g n s := by
  induction f with
  | zero => intro g n s h; omega
  | succ f ih =>
    intro g n s hf hg
    match g, hg with
    | g + 1, hg =>
      by_cases hn : n ≤ 0
      · simp [md, hn]
      · rw [md, md, if_neg hn, if_neg hn]
        exact ih g (n / 10) _ (by omega) (by omega)

theorem size_dig (c : UInt8) (s : ByteArray) : (ByteArray.empty.push c ++ s).size = 1 + s.size := by
  rw [ByteArray.size_append, ByteArray.size_push]; rfl
end Go.Proofs.YtjagfeihmnagkaaGreatDoor

namespace Go.Proofs.YtjagfeihmnagkaaGreatDoor
open Go.RowKit
set_option maxHeartbeats 1000000

def mtext (k : Int) : ByteArray := if k ≤ 0 then ⟨#[109, 48]⟩ else ⟨#[109]⟩ ++ md (k.toNat + 1) k ⟨#[]⟩

set_option maxRecDepth 20000 in
theorem markText_any (k : Int) (w : World) (h0 : 0 ≤ k) (h1 : k ≤ 1152921504606846976) :
    Calls Tryz.prog 53 #[.int .i64 k] w fun e w' =>
    e = .returned (.string (mtext k)) ∧ Below w.heap.size w w' := by
  by_cases hk : k ≤ 0
  · have HM := hide (show mtext k = ⟨#[109, 48]⟩ by simp [mtext, hk])
    go_enter Tryz.func53, Tryz.ntmps53
    go_wp2
    go_ret
    refine ⟨?_, Below.refl _ _⟩
    rw [HM.out]
    rfl
  · have HM := hide (show mtext k = ⟨#[109]⟩ ++ md (k.toNat + 1) k ⟨#[]⟩ by simp [mtext, hk])
    generalize hR : md (k.toNat + 1) k ⟨#[]⟩ = R at HM
    have HR := hide hR
    clear hR
    go_enter Tryz.func53, Tryz.ntmps53
    go_wp2
    go_loopw [0, 3] (fun i q wr => ∃ (n : Int) (s : ByteArray), 0 ≤ n ∧ i = .int .i64 n ∧ q = .string s ∧ n + s.size ≤ k ∧ Hid (md (n.toNat + 1) n s = R) ∧ Below w.heap.size w wr) (fun i _ _ => (intOf i).toNat)
    case atStart => exact ⟨k, ⟨#[]⟩, by omega, rfl, rfl, by simp [ByteArray.size], HR, Below.refl _ _⟩
    case round =>
      obtain ⟨n, s, hn, rfl, rfl, hs, hmd, hb⟩ := hrel
      by_cases hpos : 0 < n
      · have hcv := conv1 wr (48 + n % 10)
        go_wp2
        refine ⟨⟨n / 10, _, by omega, rfl, rfl, ?_, ?_, hb.alloc hb.size _⟩, ?_⟩
        · rw [size_dig]; omega
        · have h := hmd.out
          rw [md, if_neg (by omega)] at h
          show md _ _ _ = _
          rw [← h]
          exact md_fuel _ _ _ _ (by omega) (by omega)
        · simp [intOf]; omega
      · have h := hmd.out
        rw [md, if_pos (by omega)] at h
        have HH := hide h
        clear h
        go_wp2
        go_ret
        refine ⟨?_, hb⟩
        rw [HM.out, ← HH.out]
        rfl
end Go.Proofs.YtjagfeihmnagkaaGreatDoor

namespace Go.Proofs.YtjagfeihmnagkaaGreatDoor
open Go.RowKit
set_option maxHeartbeats 1000000

theorem markPieceS_any (b n cap : Nat) (k : Int) (w : World) (hn : n ≤ 1048576) (h0 : 0 ≤ k) (h1 : k ≤ 1125899906842624) (hr : Row w b 55 (n * 4)) :
    Calls Tryz.prog 37 #[.slice (some ⟨b, 0, none⟩) n cap, .int .i64 k] w fun e w' =>
    e = .returned (.int .i64 (k + 4 * n)) ∧ Mid b (b + 1) w w' := by
  have HR := hide hr
  clear hr
  go_enter Tryz.func37, Tryz.ntmps37
  go_wp2_with fail
  go_loopw [1, 5] (fun q i wr => ∃ (t : Nat), t ≤ n ∧ i = .int .i64 t ∧ q = .int .i64 (k + 4 * t) ∧ Hid (Row wr b 55 (n * 4)) ∧ Mid b (b + 1) w wr) (fun _ i _ => n - (intOf i).toNat)
  case atStart => exact ⟨0, Nat.zero_le _, rfl, by simp, HR, Mid.refl _ _ _⟩
  case round =>
    obtain ⟨t, ht, rfl, rfl, hrow, hm⟩ := hrel
    by_cases hlt : t < n
    · go_wp2_with fail
      refine (markText_any _ _ (by omega) (by omega)).mono ?_
      rintro e w1 ⟨rfl, hb1⟩
      obtain ⟨f, hf⟩ := hrow.out.later hb1
      have hm1 : Mid b (b + 1) w w1 := hm.trans (Mid.of_below hb1)
      have d0 := hf.cell (i := t * 4) (by omega)
      have d1 := hf.cell (i := t * 4 + 1) (by omega)
      have d2 := hf.cell (i := t * 4 + 2) (by omega)
      have d3 := hf.cell (i := t * 4 + 3) (by omega)
      have z0 := hf.frozen (t * 4)
      have z1 := hf.frozen (t * 4 + 1)
      have z2 := hf.frozen (t * 4 + 2)
      have z3 := hf.frozen (t * 4 + 3)
      have HF := hide hf
      clear hf
      go_wp2_with fail
      go_roundw
      case rel =>
        refine ⟨t + 1, by omega, by go_num, ?_, ⟨_, (((HF.out.set _ _).set _ _).set _ _).set _ _⟩, (((hm1.setCell (Nat.le_refl _) (by omega) _).setCell (Nat.le_refl _) (by omega) _).setCell (Nat.le_refl _) (by omega) _).setCell (Nat.le_refl _) (by omega) _⟩
        congr 1; omega
      case measure => simp [intOf]; omega
    · obtain rfl : t = n := by omega
      go_wp2_with fail
      go_ret
      exact ⟨rfl, hm⟩

/-- The rows of joints that a call has made, what they hold not told but for the lists of ends. -/
def JRows (w : World) (b C : Nat) (js : List Jt) : Prop :=
  Row w b 58 (js.length * 3) ∧ b < C ∧ ∀ k (_ : k < js.length), ∃ b', b < b' ∧ b' < C ∧ w.cell? ⟨b, k * 3 + 2, none⟩ = some (.slice (some ⟨b', 0, none⟩) js[k].ends.length js[k].ends.length) ∧ Row w b' 60 (js[k].ends.length * 2)

theorem JtsOwn.rows {w : World} {b : Nat} {js : List Jt} (h : JtsOwn w b js) : JRows w b w.heap.size js := by
  refine ⟨h.1, by obtain ⟨f, hf⟩ := h.1; exact hf.lt, fun k hk => ?_⟩
  obtain ⟨b', h0, _, _, h3, h4, _⟩ := h.2 k hk
  exact ⟨b', h0, by obtain ⟨f, hf⟩ := h4; exact hf.lt, h3, h4⟩

theorem JRows.later {w w' : World} {b C js} (h : JRows w b C js) (hb : Below w.heap.size w w') : JRows w' b C js := by
  refine ⟨h.1.later hb, h.2.1, fun k hk => ?_⟩
  obtain ⟨b', h0, h1, h2, h3⟩ := h.2.2 k hk
  exact ⟨b', h0, h1, cell_later' hb h2, h3.later hb⟩

theorem JRows.set {w : World} {b C js} (h : JRows w b C js) (o : Nat) (ho : ∀ k, o ≠ k * 3 + 2) (v : Value) : JRows (w.setCell ⟨b, o, none⟩ v) b C js := by
  obtain ⟨⟨f, hf⟩, hC, hk⟩ := h
  refine ⟨⟨_, hf.set o v⟩, hC, fun k hlt => ?_⟩
  obtain ⟨b', h0, h1, h2, h3⟩ := hk k hlt
  refine ⟨b', h0, h1, ?_, h3.setOther (by omega) v⟩
  rw [(hf.set o v).cell (by omega), if_neg (fun h => ho k h.symm)]
  rw [hf.cell (by omega)] at h2
  exact h2

theorem JRows.mid {w w' : World} {b C js} {b0 n0 : Nat} (h : JRows w b C js) (hm : Mid b0 (b0 + 1) w w') (hb : b < b0) (hr : Row w' b0 60 n0) (hr0 : Row w b0 60 n0) : JRows w' b C js := by
  refine ⟨hm.row (by omega) h.1, h.2.1, fun k hk => ?_⟩
  obtain ⟨b', h0, h1, h2, h3⟩ := h.2.2 k hk
  refine ⟨b', h0, h1, hm.cell (by omega) h2, ?_⟩
  by_cases e : b' = b0
  · subst e
    obtain ⟨f, c, hc, hn, _⟩ := h3
    obtain ⟨f0, c0, hc0, hn0, _⟩ := hr0
    rw [hc] at hc0
    have : c = c0 := by simpa using hc0
    subst this
    rw [← hn, hn0]; exact hr
  · exact hm.row (by omega) h3

theorem markJointS_any (b C cap : Nat) (js : List Jt) (k : Int) (w : World) (hn : js.length ≤ 1048576) (hm : ∀ j ∈ js, j.ends.length ≤ 1048576) (h0 : 0 ≤ k) (h1 : k ≤ 4294967296) (hr : JRows w b C js) :
    Calls Tryz.prog 38 #[.slice (some ⟨b, 0, none⟩) js.length cap, .int .i64 k] w fun e w' =>
    ∃ k', e = .returned (.int .i64 k') ∧ (0 ≤ k' ∧ k' ≤ 4402341478400) ∧ Mid b C w w' := by
  have HR := hide hr
  have HM := hide hm
  clear hr hm
  go_enter Tryz.func38, Tryz.ntmps38
  go_wp2_with fail
  go_loopw [1, 5] (fun q i wr => ∃ (t : Nat) (k' : Int), t ≤ js.length ∧ i = .int .i64 t ∧ q = .int .i64 k' ∧ 0 ≤ k' ∧ k' ≤ k + t * 4194304 ∧ Hid (JRows wr b C js) ∧ Mid b C w wr) (fun _ i _ => js.length - (intOf i).toNat)
  case atStart => exact ⟨0, k, Nat.zero_le _, rfl, rfl, h0, by omega, HR, Mid.refl _ _ _⟩
  case round =>
    obtain ⟨t, k', ht, rfl, rfl, hk0, hk1, hrow, hmid⟩ := hrel
    by_cases hlt : t < js.length
    · have hme := HM.out _ (List.getElem_mem hlt)
      obtain ⟨f, hf⟩ := hrow.out.1
      have d0 := hf.cell (i := t * 3) (by omega)
      have z0 := hf.frozen (t * 3)
      clear hf
      go_wp2_with fail
      refine (markText_any _ _ (by omega) (by omega)).mono ?_
      rintro e w1 ⟨rfl, hb1⟩
      have hrow1 := hide ((hrow.out.set (t * 3) (fun k => by omega) (.int .i64 k')).later hb1)
      have hmid1 : Mid b C w w1 := (hmid.setCell (Nat.le_refl _) hrow.out.2.1 _).trans (Mid.of_below hb1)
      obtain ⟨f1, hf1⟩ := hrow1.out.1
      have d1 := hf1.cell (i := t * 3 + 1) (by omega)
      have z1 := hf1.frozen (t * 3 + 1)
      clear hf1 hb1
      have hrow2 := hide (hrow1.out.set (t * 3 + 1) (fun k => by omega) (.string (mtext (k' + 1))))
      have hmid2 : Mid b C w (w1.setCell ⟨b, t * 3 + 1, none⟩ (.string (mtext (k' + 1)))) := hmid1.setCell (Nat.le_refl _) hrow1.out.2.1 _
      obtain ⟨b', g0, g1, g2, g3⟩ := hrow2.out.2.2 t hlt
      have HG3 := hide g3
      clear g3
      go_wp2_with fail
      refine (markEndS_some b' _ _ _ _ hme (by omega) (by omega) HG3.out).mono ?_
      rintro e w2 ⟨rfl, hm2, hr2, _⟩
      have hrow3 := hide (hrow2.out.mid hm2 g0 hr2 HG3.out)
      have hmid3 := hmid2.trans (hm2.wide (by omega) (by omega))
      clear hr2 hm2
      go_wp2_with fail
      go_roundw
      case rel => exact ⟨t + 1, _, by omega, by go_num, rfl, by omega, by omega, hrow3, hmid3⟩
      case measure => simp [intOf]; omega
    · go_wp2_with fail
      go_ret
      exact ⟨k', rfl, ⟨hk0, by omega⟩, hmid⟩

theorem markNet_any (B b1 b2 C cap cap' : Nat) (N : Nt) (k : Int) (w : World) (hn : N.pcs.length ≤ 1048576) (hl : N.jts.length ≤ 1048576) (hm : ∀ j ∈ N.jts, j.ends.length ≤ 1048576) (h0 : 0 ≤ k) (h1 : k ≤ 4294967) (hB : B ≤ b1) (h12 : b1 < b2) (hr1 : Row w b1 55 (N.pcs.length * 4)) (hr : JRows w b2 C N.jts) :
    Calls Tryz.prog 17 #[.agg #[.slice (some ⟨b1, 0, none⟩) N.pcs.length cap, .slice (some ⟨b2, 0, none⟩) N.jts.length cap'], .int .i64 k] w fun e w' =>
    ∃ k', e = .returned (.int .i64 k') ∧ (0 ≤ k' ∧ k' ≤ 4402341478400) ∧ Mid B C w w' := by
  have HR1 := hide hr1
  have HR := hide hr
  have HM := hide hm
  have hC := hr.2.1
  clear hr1 hr hm
  go_enter Tryz.func17, Tryz.ntmps17
  go_wp2_with fail
  have hbA : Below w.heap.size w (w.alloc (.cells #[.slice (some ⟨b1, 0, none⟩) N.pcs.length cap, .slice (some ⟨b2, 0, none⟩) N.jts.length cap'] 25)) := (Below.refl _ _).alloc (Nat.le_refl _) _
  have hlt1 : b1 < w.heap.size := by obtain ⟨f, hf⟩ := HR1.out; exact hf.lt
  refine (markPieceS_any b1 _ cap k _ hn h0 (by omega) (HR1.out.later hbA)).mono ?_
  rintro e w1 ⟨rfl, hm1⟩
  have n1 : w1.cell? ⟨w.heap.size, 1, none⟩ = some (.slice (some ⟨b2, 0, none⟩) N.jts.length cap') := hm1.cell (by omega) (new_cell w _ _ 1 _ rfl)
  have hJ1 : JRows w1 b2 C N.jts := by
    have h := HR.out.later hbA
    refine ⟨hm1.row (by omega) h.1, h.2.1, fun k hk => ?_⟩
    obtain ⟨b', g0, g1, g2, g3⟩ := h.2.2 k hk
    exact ⟨b', g0, g1, hm1.cell (by omega) g2, hm1.row (by omega) g3⟩
  have HJ1 := hide hJ1
  have hmid1 : Mid B C w w1 := (Mid.of_below hbA).trans (hm1.wide (by omega) (by omega))
  clear hJ1 hm1
  go_wp2_with fail
  refine (markJointS_any b2 C cap' N.jts _ _ hl HM.out (by omega) (by omega) HJ1.out).mono ?_
  rintro e w2 ⟨k', rfl, hk', hm2⟩
  have hmid2 := hmid1.trans (hm2.wide (by omega) (Nat.le_refl _))
  clear hm2
  go_wp2_with fail
  go_ret
  exact ⟨k', rfl, hk', hmid2⟩
end Go.Proofs.YtjagfeihmnagkaaGreatDoor

namespace Go.Proofs.YtjagfeihmnagkaaGreatDoor
open Go.RowKit
set_option maxHeartbeats 1000000

theorem heldEndS_any (a : Option Addr) (n cap : Nat) (k : Int) (w : World) (hn : n ≤ 1048576) (h0 : 0 ≤ k) (h1 : k ≤ 1125899906842624) (hm : Marked w a n k) :
    Calls Tryz.prog 55 #[.slice a n cap, .int .i64 k] w fun e w' => e = .returned (.int .i64 (k + 2 * n)) ∧ w = w' := by
  have HM := hide hm
  clear hm
  go_enter Tryz.func55, Tryz.ntmps55
  go_wp2
  go_loop [1, 5] (fun q i => ∃ (t : Nat), t ≤ n ∧ i = .int .i64 t ∧ q = .int .i64 (k + 2 * t)) (fun _ i => n - (intOf i).toNat)
  case atStart => exact ⟨0, Nat.zero_le _, rfl, by simp⟩
  case round =>
    obtain ⟨t, ht, rfl, rfl⟩ := hrel
    by_cases hlt : t < n
    · obtain ⟨b, rfl, d0, d1⟩ := HM.out t hlt
      go_wp2
      refine ⟨⟨t + 1, by omega, by go_num, ?_⟩, by simp [intOf]; omega⟩
      congr 1; omega
    · obtain rfl : t = n := by omega
      go_wp2
      go_ret
      exact ⟨rfl, rfl⟩
end Go.Proofs.YtjagfeihmnagkaaGreatDoor

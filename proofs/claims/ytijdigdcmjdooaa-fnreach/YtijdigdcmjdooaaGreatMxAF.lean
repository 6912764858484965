/- spec.Ahead, spec.Behind. Own work. -/
import Derived.Test.YtijdigdcmjdooaaGreatDrS
import Derived.Test.YtijdigdcmjdooaaGreatMxAA
import Derived.Test.YtijdigdcmjdooaaGreatMxAD
import Derived.Test.YtijdigdcmjdooaaGreatMxAB
namespace Go.Proofs.YtijdigdcmjdooaaGreat
open Go.RowKit
set_option maxHeartbeats 2000000

/-- What Ahead answers. -/
def AheadR (N : Nt) (xs : List Int) (q at' way far : Int) (ps : List (Int × Int × Int)) : Prop :=
  if goodP N xs q at' way far = true then ∃ r : DRes, DriveR N xs far 0 q at' way 0 [] r ∧ r.ps = ps else ps = []
/-- What Behind answers. -/
def BehindR (N : Nt) (xs : List Int) (q at' way far : Int) (ps : List (Int × Int × Int)) : Prop :=
  if goodP N xs q at' way far = true then ∃ r : DRes, DriveR N xs far 0 q at' (-way) 0 [] r ∧ r.ps = ps else ps = []

theorem good_parts {N : Nt} {xs : List Int} {q at' way far : Int} (h : goodP N xs q at' way far = true) : netOk N = (0, 0) ∧ liesP N.jts xs = true ∧ spotP N q at' way = true ∧ 0 ≤ far ∧ far ≤ 1000000 := by
  simp only [goodP, inR, Bool.and_eq_true, decide_eq_true_eq] at h
  exact ⟨h.1.1.1, h.1.1.2, h.1.2, h.2.1, h.2.2⟩

theorem ahead_one {N : Nt} {xs : List Int} {q at' way far : Int} {ps ps' : List (Int × Int × Int)} (h : AheadR N xs q at' way far ps) (h' : AheadR N xs q at' way far ps') : ps = ps' := by
  unfold AheadR at h h'
  split at h
  · rename_i hg
    rw [if_pos hg] at h'
    obtain ⟨r, hr, rfl⟩ := h
    obtain ⟨r', hr', rfl⟩ := h'
    rw [drive_one (good_parts hg).1 hr hr']
  · rename_i hg
    rw [if_neg hg] at h'
    rw [h, h']

theorem behind_one {N : Nt} {xs : List Int} {q at' way far : Int} {ps ps' : List (Int × Int × Int)} (h : BehindR N xs q at' way far ps) (h' : BehindR N xs q at' way far ps') : ps = ps' := by
  unfold BehindR at h h'
  split at h
  · rename_i hg
    rw [if_pos hg] at h'
    obtain ⟨r, hr, rfl⟩ := h
    obtain ⟨r', hr', rfl⟩ := h'
    rw [drive_one (good_parts hg).1 hr hr']
  · rename_i hg
    rw [if_neg hg] at h'
    rw [h, h']

theorem spot_back {N : Nt} {q at' way : Int} (h : spotP N q at' way = true) : spotP N q at' (-way) = true := by
  simp only [spotP, Bool.and_eq_true, Bool.or_eq_true, beq_iff_eq] at h ⊢
  refine ⟨⟨h.1.1, ?_⟩, h.2⟩
  rcases h.1.2 with h | h
  · right; omega
  · left; omega

end Go.Proofs.YtijdigdcmjdooaaGreat

namespace Go.Proofs.YtijdigdcmjdooaaGreat
open Go.RowKit
set_option maxHeartbeats 1000000

/-- Of the blocks that were there only some from B to below C have turned. -/
structure Mid (B C : Nat) (w w' : World) : Prop where
  os : w'.os = w.os
  tape : w'.tape = w.tape
  output : w'.output = w.output
  size : w.heap.size ≤ w'.heap.size
  block : ∀ k, k < w.heap.size → (k < B ∨ C ≤ k) → w'.heap[k]? = w.heap[k]?

theorem Mid.refl (B C : Nat) (w : World) : Mid B C w w := ⟨rfl, rfl, rfl, Nat.le_refl _, fun _ _ _ => rfl⟩
theorem Mid.trans {B C : Nat} {a b c : World} (h : Mid B C a b) (k : Mid B C b c) : Mid B C a c :=
  ⟨k.os.trans h.os, k.tape.trans h.tape, k.output.trans h.output, Nat.le_trans h.size k.size, fun i hi hc => (k.block i (Nat.lt_of_lt_of_le hi h.size) hc).trans (h.block i hi hc)⟩
theorem Mid.wide {B C B' C' : Nat} {w w' : World} (h : Mid B C w w') (hB : B' ≤ B) (hC : C ≤ C') : Mid B' C' w w' :=
  ⟨h.os, h.tape, h.output, h.size, fun k hk hc => h.block k hk (by omega)⟩
theorem Mid.of_below {B C : Nat} {w w' : World} (h : Below w.heap.size w w') : Mid B C w w' := ⟨h.os, h.tape, h.output, h.size, fun k hk _ => h.block k hk⟩
theorem Mid.setCell {B C : Nat} {a w : World} (h : Mid B C a w) {b o : Nat} (hB : B ≤ b) (hC : b < C) (u : Value) : Mid B C a (w.setCell ⟨b, o, none⟩ u) :=
  h.trans ⟨rfl, rfl, rfl, by simp [World.setCell], fun k _ hc => Below.heap_setCell _ _ _ _ (by show k ≠ b; omega)⟩
theorem Mid.below {B C : Nat} {w w' : World} (h : Mid B C w w') (hB : B ≤ w.heap.size) : Below B w w' := ⟨h.os, h.tape, h.output, h.size, fun k hk => h.block k (by omega) (by omega)⟩
theorem Mid.cell {B C : Nat} {w w' : World} (h : Mid B C w w') {b o : Nat} {v : Value} (hb : b < B ∨ C ≤ b) (hc : w.cell? ⟨b, o, none⟩ = some v) : w'.cell? ⟨b, o, none⟩ = some v := by
  rw [World.cell?_of_block (w := w) (w' := w') (a := ⟨b, o, none⟩) (h.block b (cell_lt hc) hb)]; exact hc
theorem Mid.row {B C : Nat} {w w' : World} (h : Mid B C w w') {b n : Nat} {t : TypeId} (hb : b < B ∨ C ≤ b) (hr : Row w b t n) : Row w' b t n := by
  obtain ⟨f, hf⟩ := hr
  exact ⟨f, hf.of_block (h.block b hf.lt hb)⟩

/-- A list of ends that a call has made, or none. -/
def OwnEnds (w : World) (a : Option Addr) (n : Nat) : Prop := n = 0 ∨ ∃ b, a = some ⟨b, 0, none⟩ ∧ Row w b 92 (n * 2)
def Marked (w : World) (a : Option Addr) (n : Nat) (k : Int) : Prop := ∀ i, i < n → ∃ b, a = some ⟨b, 0, none⟩ ∧ w.cell? ⟨b, i * 2, none⟩ = some (.int .i64 (k + 2 * i)) ∧ w.cell? ⟨b, i * 2 + 1, none⟩ = some (.int .i64 (k + 2 * i + 1))

theorem markEndS_some (b n cap : Nat) (k : Int) (w : World) (hn : n ≤ 1048576) (h0 : 0 ≤ k) (h1 : k ≤ 1125899906842624) (hr : Row w b 92 (n * 2)) :
    Calls Tryz.prog 80 #[.slice (some ⟨b, 0, none⟩) n cap, .int .i64 k] w fun e w' =>
    e = .returned (.int .i64 (k + 2 * n)) ∧ Mid b (b + 1) w w' ∧ Row w' b 92 (n * 2) ∧ Marked w' (some ⟨b, 0, none⟩) n k := by
  have HR := hide hr
  clear hr
  go_enter Tryz.func80, Tryz.ntmps80
  go_wp2
  go_loopw [1, 5] (fun q i wr => ∃ (t : Nat) (f : Nat → Value), t ≤ n ∧ i = .int .i64 t ∧ q = .int .i64 (k + 2 * t) ∧ Hid (wr.rowIs b 92 (n * 2) f) ∧ Hid (∀ j, j < t → f (j * 2) = .int .i64 (k + 2 * j) ∧ f (j * 2 + 1) = .int .i64 (k + 2 * j + 1)) ∧ Mid b (b + 1) w wr) (fun _ i _ => n - (intOf i).toNat)
  case atStart =>
    obtain ⟨f, hf⟩ := HR.out
    exact ⟨0, f, Nat.zero_le _, rfl, by simp, hf, (fun j hj => by omega), Mid.refl _ _ _⟩
  case round =>
    obtain ⟨t, f, ht, rfl, rfl, hf, hfs, hm⟩ := hrel
    by_cases hlt : t < n
    · have d0 := hf.out.cell (i := t * 2) (by omega)
      have d1 := hf.out.cell (i := t * 2 + 1) (by omega)
      have z0 := hf.out.frozen (t * 2)
      have z1 := hf.out.frozen (t * 2 + 1)
      go_wp2
      go_roundw
      case rel =>
        refine ⟨t + 1, _, by omega, by go_num, ?_, (hf.out.set _ _).set _ _, ?_, (hm.setCell (Nat.le_refl _) (by omega) _).setCell (Nat.le_refl _) (by omega) _⟩
        · congr 1; omega
        · intro j hj
          by_cases e : j = t
          · subst e
            constructor
            · rw [if_neg (by omega), if_pos rfl]
            · rw [if_pos rfl]
          · have := hfs.out j (by omega)
            constructor
            · rw [if_neg (by omega), if_neg (by omega)]; exact this.1
            · rw [if_neg (by omega), if_neg (by omega)]; exact this.2
      case measure => simp [intOf]; omega
    · obtain rfl : t = n := by omega
      go_wp2
      go_ret
      refine ⟨rfl, hm, ⟨f, hf.out⟩, ?_⟩
      intro i hi
      have := hfs.out i hi
      exact ⟨b, rfl, by rw [hf.out.cell (by omega), this.1], by rw [hf.out.cell (by omega), this.2]⟩

theorem markEndS_none (a : Option Addr) (cap : Nat) (k : Int) (w : World) :
    Calls Tryz.prog 80 #[.slice a 0 cap, .int .i64 k] w fun e w' => e = .returned (.int .i64 k) ∧ w = w' := by
  go_enter Tryz.func80, Tryz.ntmps80
  go_wp2
  go_loop [1, 5] (fun q i => q = .int .i64 k ∧ i = .int .i64 0) (fun _ i => 0)
  case atStart => exact ⟨rfl, rfl⟩
  case round =>
    obtain ⟨rfl, rfl⟩ := hrel
    go_wp2
    go_ret
    exact ⟨rfl, rfl⟩
end Go.Proofs.YtijdigdcmjdooaaGreat

/- Marks of lists of numbers and of parts. Own work. -/
namespace Go.Proofs.YtijdigdcmjdooaaGreat
open Go.RowKit
set_option maxHeartbeats 2000000

/-- The marks of parts. -/
def MarkedP (w : World) (b n : Nat) (k : Int) : Prop := ∀ i, i < n → w.cell? ⟨b, i * 3, none⟩ = some (.int .i64 (k + 3 * i)) ∧ w.cell? ⟨b, i * 3 + 1, none⟩ = some (.int .i64 (k + 3 * i + 1)) ∧ w.cell? ⟨b, i * 3 + 2, none⟩ = some (.int .i64 (k + 3 * i + 2))

/-- What is owned as a row of parts is a list of parts in memory. -/
theorem partCells_at (ps : List (Int × Int × Int)) : ∀ k (hk : k < ps.length), (partCells ps)[k * 3]? = some (.int .i64 ps[k].1) ∧ (partCells ps)[k * 3 + 1]? = some (.int .i64 ps[k].2.1) ∧ (partCells ps)[k * 3 + 2]? = some (.int .i64 ps[k].2.2) := by
  induction ps with
  | nil => intro k hk; simp at hk
  | cons p ps ih =>
    intro k hk
    have e : partCells (p :: ps) = .int .i64 p.1 :: .int .i64 p.2.1 :: .int .i64 p.2.2 :: partCells ps := rfl
    rw [e]
    cases k with
    | zero => exact ⟨rfl, rfl, rfl⟩
    | succ k =>
      have := ih k (by simpa using hk)
      have e3 : (k + 1) * 3 = k * 3 + 1 + 1 + 1 := by omega
      rw [e3]
      simpa using this

theorem partCells_length (ps : List (Int × Int × Int)) : (partCells ps).length = ps.length * 3 := by
  induction ps with
  | nil => rfl
  | cons p ps ih =>
    have e : partCells (p :: ps) = .int .i64 p.1 :: .int .i64 p.2.1 :: .int .i64 p.2.2 :: partCells ps := rfl
    rw [e]
    simp only [List.length_cons, ih]
    omega

theorem parts_of_owns {w : World} {base : Nat} {e : TypeId} {v : Value} {ps : List (Int × Int × Int)} (h : w.ownsRow base e 3 v ps.length (partCells ps)) :
    (v = .slice none 0 0 ∧ ps = []) ∨ ∃ b cap, v = .slice (some ⟨b, 0, none⟩) ps.length cap ∧ base ≤ b ∧ ps.length ≤ cap ∧ PartsAt w (some ⟨b, 0, none⟩) ps ∧ Row w b e (cap * 3) := by
  rcases h.2 with ⟨hv, h0⟩ | ⟨g, cap, cur, hv, hb, hg, hn, _, hsz, htk⟩
  · exact .inl ⟨hv, List.eq_nil_of_length_eq_zero h0⟩
  · refine .inr ⟨g, cap, hv, hb, hn, ?_, ?_⟩
    · have hcell : ∀ j, j < ps.length * 3 → w.cell? ⟨g, j, none⟩ = (partCells ps)[j]? := by
        intro j hj
        rw [hv] at h
        exact h.cellAt j hj
      intro k hk
      obtain ⟨p0, p1, p2⟩ := partCells_at ps k hk
      refine ⟨g, 0, rfl, ?_, ?_, ?_⟩
      · rw [Nat.zero_add, hcell _ (by omega), p0]
      · rw [Nat.zero_add, hcell _ (by omega), p1]
      · rw [Nat.zero_add, hcell _ (by omega), p2]
    · exact ⟨fun i => cur[i]!, cur, hg, hsz, fun i hi => by simp [hsz, hi]⟩

end Go.Proofs.YtijdigdcmjdooaaGreat

namespace Go.Proofs.YtijdigdcmjdooaaGreat
open Go.RowKit
set_option maxHeartbeats 1000000

theorem conv1 (wr : World) (x : Int) : (convert 22 9 (.slice (some ⟨wr.heap.size, 0, none⟩) 1 1)).run Tryz.prog (wr.alloc (.cells #[.int .u8 x] 5)) = .ok (.string (ByteArray.empty.push (UInt8.ofNat x.toNat))) (wr.alloc (.cells #[.int .u8 x] 5)) := by
  rw [run_convert_bytes_string _ _ _ _ _ _ _ Tryz.underlying22 Tryz.underlying5 Tryz.underlying9]
  rw [run_bytesToString _ _ _ _ [x] (by simp [loadCells, go_sem])]
  rfl

def md : Nat → Int → ByteArray → ByteArray
  | 0, _, s => s
  | f + 1, n, s => if n ≤ 0 then s else md f (n / 10) (ByteArray.empty.push (UInt8.ofNat (48 + n % 10).toNat) ++ s)

theorem md_fuel (f : Nat) : ∀ (g : Nat) (n : Int) (s : ByteArray), n.toNat < f → n.toNat < g → md f n s = md g n s := by
  induction f with
  | zero => intro g n s h; omega
  | succ f ih =>
    intro g n s hf hg
    match g, hg with
    | g + 1, hg =>
      by_cases hn : n ≤ 0
      · simp [md, hn]
      · rw [md, md, if_neg hn, if_neg hn]
        exact ih g (n / 10) _ (by omega) (by omega)

theorem size_dig (c : UInt8) (s : ByteArray) : (ByteArray.empty.push c ++ s).size = 1 + s.size := by
  rw [ByteArray.size_append, ByteArray.size_push]; rfl
end Go.Proofs.YtijdigdcmjdooaaGreat

namespace Go.Proofs.YtijdigdcmjdooaaGreat
open Go.RowKit
set_option maxHeartbeats 1000000

def mtext (k : Int) : ByteArray := if k ≤ 0 then ⟨#[109, 48]⟩ else ⟨#[109]⟩ ++ md (k.toNat + 1) k ⟨#[]⟩

set_option maxRecDepth 20000 in
theorem markText_any (k : Int) (w : World) (h0 : 0 ≤ k) (h1 : k ≤ 1152921504606846976) :
    Calls Tryz.prog 79 #[.int .i64 k] w fun e w' =>
    e = .returned (.string (mtext k)) ∧ Below w.heap.size w w' := by
  by_cases hk : k ≤ 0
  · have HM := hide (show mtext k = ⟨#[109, 48]⟩ by simp [mtext, hk])
    go_enter Tryz.func79, Tryz.ntmps79
    go_wp2
    go_ret
    refine ⟨?_, Below.refl _ _⟩
    rw [HM.out]
    rfl
  · have HM := hide (show mtext k = ⟨#[109]⟩ ++ md (k.toNat + 1) k ⟨#[]⟩ by simp [mtext, hk])
    generalize hR : md (k.toNat + 1) k ⟨#[]⟩ = R at HM
    have HR := hide hR
    clear hR
    go_enter Tryz.func79, Tryz.ntmps79
    go_wp2
    go_loopw [0, 3] (fun i q wr => ∃ (n : Int) (s : ByteArray), 0 ≤ n ∧ i = .int .i64 n ∧ q = .string s ∧ n + s.size ≤ k ∧ Hid (md (n.toNat + 1) n s = R) ∧ Below w.heap.size w wr) (fun i _ _ => (intOf i).toNat)
    case atStart => exact ⟨k, ⟨#[]⟩, by omega, rfl, rfl, by simp [ByteArray.size], HR, Below.refl _ _⟩
    case round =>
      obtain ⟨n, s, hn, rfl, rfl, hs, hmd, hb⟩ := hrel
      by_cases hpos : 0 < n
      · have hcv := conv1 wr (48 + n % 10)
        go_wp2
        refine ⟨⟨n / 10, _, by omega, rfl, rfl, ?_, ?_, hb.alloc hb.size _⟩, ?_⟩
        · rw [size_dig]; omega
        · have h := hmd.out
          rw [md, if_neg (by omega)] at h
          show md _ _ _ = _
          rw [← h]
          exact md_fuel _ _ _ _ (by omega) (by omega)
        · simp [intOf]; omega
      · have h := hmd.out
        rw [md, if_pos (by omega)] at h
        have HH := hide h
        clear h
        go_wp2
        go_ret
        refine ⟨?_, hb⟩
        rw [HM.out, ← HH.out]
        rfl
end Go.Proofs.YtijdigdcmjdooaaGreat

namespace Go.Proofs.YtijdigdcmjdooaaGreat
open Go.RowKit
set_option maxHeartbeats 1000000

theorem markPieceS_any (b n cap : Nat) (k : Int) (w : World) (hn : n ≤ 1048576) (h0 : 0 ≤ k) (h1 : k ≤ 1125899906842624) (hr : Row w b 65 (n * 4)) :
    Calls Tryz.prog 52 #[.slice (some ⟨b, 0, none⟩) n cap, .int .i64 k] w fun e w' =>
    e = .returned (.int .i64 (k + 4 * n)) ∧ Mid b (b + 1) w w' := by
  have HR := hide hr
  clear hr
  go_enter Tryz.func52, Tryz.ntmps52
  go_wp2_with fail
  go_loopw [1, 5] (fun q i wr => ∃ (t : Nat), t ≤ n ∧ i = .int .i64 t ∧ q = .int .i64 (k + 4 * t) ∧ Hid (Row wr b 65 (n * 4)) ∧ Mid b (b + 1) w wr) (fun _ i _ => n - (intOf i).toNat)
  case atStart => exact ⟨0, Nat.zero_le _, rfl, by simp, HR, Mid.refl _ _ _⟩
  case round =>
    obtain ⟨t, ht, rfl, rfl, hrow, hm⟩ := hrel
    by_cases hlt : t < n
    · go_wp2_with fail
      refine (markText_any _ _ (by omega) (by omega)).mono ?_
      rintro e w1 ⟨rfl, hb1⟩
      obtain ⟨f, hf⟩ := hrow.out.later hb1
      have hm1 : Mid b (b + 1) w w1 := hm.trans (Mid.of_below hb1)
      have d0 := hf.cell (i := t * 4) (by omega)
      have d1 := hf.cell (i := t * 4 + 1) (by omega)
      have d2 := hf.cell (i := t * 4 + 2) (by omega)
      have d3 := hf.cell (i := t * 4 + 3) (by omega)
      have z0 := hf.frozen (t * 4)
      have z1 := hf.frozen (t * 4 + 1)
      have z2 := hf.frozen (t * 4 + 2)
      have z3 := hf.frozen (t * 4 + 3)
      have HF := hide hf
      clear hf
      go_wp2_with fail
      go_roundw
      case rel =>
        refine ⟨t + 1, by omega, by go_num, ?_, ⟨_, (((HF.out.set _ _).set _ _).set _ _).set _ _⟩, (((hm1.setCell (Nat.le_refl _) (by omega) _).setCell (Nat.le_refl _) (by omega) _).setCell (Nat.le_refl _) (by omega) _).setCell (Nat.le_refl _) (by omega) _⟩
        congr 1; omega
      case measure => simp [intOf]; omega
    · obtain rfl : t = n := by omega
      go_wp2_with fail
      go_ret
      exact ⟨rfl, hm⟩

/-- The rows of joints that a call has made, what they hold not told but for the lists of ends. -/
def JRows (w : World) (b C : Nat) (js : List Jt) : Prop :=
  Row w b 97 (js.length * 3) ∧ b < C ∧ ∀ k (_ : k < js.length), ∃ b', b < b' ∧ b' < C ∧ w.cell? ⟨b, k * 3 + 2, none⟩ = some (.slice (some ⟨b', 0, none⟩) js[k].ends.length js[k].ends.length) ∧ Row w b' 92 (js[k].ends.length * 2)

theorem JtsOwn.rows {w : World} {b : Nat} {js : List Jt} (h : JtsOwn w b js) : JRows w b w.heap.size js := by
  refine ⟨h.1, by obtain ⟨f, hf⟩ := h.1; exact hf.lt, fun k hk => ?_⟩
  obtain ⟨b', h0, _, _, h3, h4, _⟩ := h.2 k hk
  exact ⟨b', h0, by obtain ⟨f, hf⟩ := h4; exact hf.lt, h3, h4⟩

theorem JRows.later {w w' : World} {b C js} (h : JRows w b C js) (hb : Below w.heap.size w w') : JRows w' b C js := by
  refine ⟨h.1.later hb, h.2.1, fun k hk => ?_⟩
  obtain ⟨b', h0, h1, h2, h3⟩ := h.2.2 k hk
  exact ⟨b', h0, h1, cell_later' hb h2, h3.later hb⟩

theorem JRows.set {w : World} {b C js} (h : JRows w b C js) (o : Nat) (ho : ∀ k, o ≠ k * 3 + 2) (v : Value) : JRows (w.setCell ⟨b, o, none⟩ v) b C js := by
  obtain ⟨⟨f, hf⟩, hC, hk⟩ := h
  refine ⟨⟨_, hf.set o v⟩, hC, fun k hlt => ?_⟩
  obtain ⟨b', h0, h1, h2, h3⟩ := hk k hlt
  refine ⟨b', h0, h1, ?_, h3.setOther (by omega) v⟩
  rw [(hf.set o v).cell (by omega), if_neg (fun h => ho k h.symm)]
  rw [hf.cell (by omega)] at h2
  exact h2

theorem JRows.mid {w w' : World} {b C js} {b0 n0 : Nat} (h : JRows w b C js) (hm : Mid b0 (b0 + 1) w w') (hb : b < b0) (hr : Row w' b0 92 n0) (hr0 : Row w b0 92 n0) : JRows w' b C js := by
  refine ⟨hm.row (by omega) h.1, h.2.1, fun k hk => ?_⟩
  obtain ⟨b', h0, h1, h2, h3⟩ := h.2.2 k hk
  refine ⟨b', h0, h1, hm.cell (by omega) h2, ?_⟩
  by_cases e : b' = b0
  · subst e
    obtain ⟨f, c, hc, hn, _⟩ := h3
    obtain ⟨f0, c0, hc0, hn0, _⟩ := hr0
    rw [hc] at hc0
    have : c = c0 := by simpa using hc0
    subst this
    rw [← hn, hn0]; exact hr
  · exact hm.row (by omega) h3

theorem markJointS_any (b C cap : Nat) (js : List Jt) (k : Int) (w : World) (hn : js.length ≤ 1048576) (hm : ∀ j ∈ js, j.ends.length ≤ 1048576) (h0 : 0 ≤ k) (h1 : k ≤ 4294967296) (hr : JRows w b C js) :
    Calls Tryz.prog 53 #[.slice (some ⟨b, 0, none⟩) js.length cap, .int .i64 k] w fun e w' =>
    ∃ k', e = .returned (.int .i64 k') ∧ (0 ≤ k' ∧ k' ≤ 4402341478400) ∧ Mid b C w w' := by
  have HR := hide hr
  have HM := hide hm
  clear hr hm
  go_enter Tryz.func53, Tryz.ntmps53
  go_wp2_with fail
  go_loopw [1, 5] (fun q i wr => ∃ (t : Nat) (k' : Int), t ≤ js.length ∧ i = .int .i64 t ∧ q = .int .i64 k' ∧ 0 ≤ k' ∧ k' ≤ k + t * 4194304 ∧ Hid (JRows wr b C js) ∧ Mid b C w wr) (fun _ i _ => js.length - (intOf i).toNat)
  case atStart => exact ⟨0, k, Nat.zero_le _, rfl, rfl, h0, by omega, HR, Mid.refl _ _ _⟩
  case round =>
    obtain ⟨t, k', ht, rfl, rfl, hk0, hk1, hrow, hmid⟩ := hrel
    by_cases hlt : t < js.length
    · have hme := HM.out _ (List.getElem_mem hlt)
      obtain ⟨f, hf⟩ := hrow.out.1
      have d0 := hf.cell (i := t * 3) (by omega)
      have z0 := hf.frozen (t * 3)
      clear hf
      go_wp2_with fail
      refine (markText_any _ _ (by omega) (by omega)).mono ?_
      rintro e w1 ⟨rfl, hb1⟩
      have hrow1 := hide ((hrow.out.set (t * 3) (fun k => by omega) (.int .i64 k')).later hb1)
      have hmid1 : Mid b C w w1 := (hmid.setCell (Nat.le_refl _) hrow.out.2.1 _).trans (Mid.of_below hb1)
      obtain ⟨f1, hf1⟩ := hrow1.out.1
      have d1 := hf1.cell (i := t * 3 + 1) (by omega)
      have z1 := hf1.frozen (t * 3 + 1)
      clear hf1 hb1
      have hrow2 := hide (hrow1.out.set (t * 3 + 1) (fun k => by omega) (.string (mtext (k' + 1))))
      have hmid2 : Mid b C w (w1.setCell ⟨b, t * 3 + 1, none⟩ (.string (mtext (k' + 1)))) := hmid1.setCell (Nat.le_refl _) hrow1.out.2.1 _
      obtain ⟨b', g0, g1, g2, g3⟩ := hrow2.out.2.2 t hlt
      have HG3 := hide g3
      clear g3
      go_wp2_with fail
      refine (markEndS_some b' _ _ _ _ hme (by omega) (by omega) HG3.out).mono ?_
      rintro e w2 ⟨rfl, hm2, hr2, _⟩
      have hrow3 := hide (hrow2.out.mid hm2 g0 hr2 HG3.out)
      have hmid3 := hmid2.trans (hm2.wide (by omega) (by omega))
      clear hr2 hm2
      go_wp2_with fail
      go_roundw
      case rel => exact ⟨t + 1, _, by omega, by go_num, rfl, by omega, by omega, hrow3, hmid3⟩
      case measure => simp [intOf]; omega
    · go_wp2_with fail
      go_ret
      exact ⟨k', rfl, ⟨hk0, by omega⟩, hmid⟩

theorem markNet_any (B b1 b2 C cap cap' : Nat) (N : Nt) (k : Int) (w : World) (hn : N.pcs.length ≤ 1048576) (hl : N.jts.length ≤ 1048576) (hm : ∀ j ∈ N.jts, j.ends.length ≤ 1048576) (h0 : 0 ≤ k) (h1 : k ≤ 4294967) (hB : B ≤ b1) (h12 : b1 < b2) (hr1 : Row w b1 65 (N.pcs.length * 4)) (hr : JRows w b2 C N.jts) :
    Calls Tryz.prog 19 #[.agg #[.slice (some ⟨b1, 0, none⟩) N.pcs.length cap, .slice (some ⟨b2, 0, none⟩) N.jts.length cap'], .int .i64 k] w fun e w' =>
    ∃ k', e = .returned (.int .i64 k') ∧ (0 ≤ k' ∧ k' ≤ 4402341478400) ∧ Mid B C w w' := by
  have HR1 := hide hr1
  have HR := hide hr
  have HM := hide hm
  have hC := hr.2.1
  clear hr1 hr hm
  go_enter Tryz.func19, Tryz.ntmps19
  go_wp2_with fail
  have hbA : Below w.heap.size w (w.alloc (.cells #[.slice (some ⟨b1, 0, none⟩) N.pcs.length cap, .slice (some ⟨b2, 0, none⟩) N.jts.length cap'] 26)) := (Below.refl _ _).alloc (Nat.le_refl _) _
  have hlt1 : b1 < w.heap.size := by obtain ⟨f, hf⟩ := HR1.out; exact hf.lt
  refine (markPieceS_any b1 _ cap k _ hn h0 (by omega) (HR1.out.later hbA)).mono ?_
  rintro e w1 ⟨rfl, hm1⟩
  have n1 : w1.cell? ⟨w.heap.size, 1, none⟩ = some (.slice (some ⟨b2, 0, none⟩) N.jts.length cap') := hm1.cell (by omega) (new_cell w _ _ 1 _ rfl)
  have hJ1 : JRows w1 b2 C N.jts := by
    have h := HR.out.later hbA
    refine ⟨hm1.row (by omega) h.1, h.2.1, fun k hk => ?_⟩
    obtain ⟨b', g0, g1, g2, g3⟩ := h.2.2 k hk
    exact ⟨b', g0, g1, hm1.cell (by omega) g2, hm1.row (by omega) g3⟩
  have HJ1 := hide hJ1
  have hmid1 : Mid B C w w1 := (Mid.of_below hbA).trans (hm1.wide (by omega) (by omega))
  clear hJ1 hm1
  go_wp2_with fail
  refine (markJointS_any b2 C cap' N.jts _ _ hl HM.out (by omega) (by omega) HJ1.out).mono ?_
  rintro e w2 ⟨k', rfl, hk', hm2⟩
  have hmid2 := hmid1.trans (hm2.wide (by omega) (Nat.le_refl _))
  clear hm2
  go_wp2_with fail
  go_ret
  exact ⟨k', rfl, hk', hmid2⟩
end Go.Proofs.YtijdigdcmjdooaaGreat

/- Lists of parts that a call has made. Own work. -/
namespace Go.Proofs.YtijdigdcmjdooaaGreat
open Go.RowKit
set_option maxHeartbeats 8000000

/-- A list of parts that a call has made from block B on, or none. -/
def NewParts (B : Nat) (w : World) (z : Option Addr) (ps : List (Int × Int × Int)) : Prop :=
  PartsAt w z ps ∧ (ps.length = 0 ∨ ∃ b m, B ≤ b ∧ b < w.heap.size ∧ z = some ⟨b, 0, none⟩ ∧ ps.length * 3 ≤ m ∧ Row w b 214 m)
theorem newParts {w : World} {base : Nat} {v : Value} {ps : List (Int × Int × Int)} (h : w.ownsRow base 214 3 v ps.length (partCells ps)) : ∃ z zc, v = .slice z ps.length zc ∧ NewParts base w z ps := by
  rcases parts_of_owns h with ⟨rfl, rfl⟩ | ⟨b, cap, rfl, hb, hn, hP, hR⟩
  · exact ⟨none, 0, rfl, fun k hk => by simp at hk, .inl rfl⟩
  · exact ⟨_, cap, rfl, hP, .inr ⟨b, cap * 3, hb, by obtain ⟨f, hf⟩ := hR; exact hf.lt, rfl, by omega, hR⟩⟩
theorem NewParts.later {B : Nat} {w w' : World} {z : Option Addr} {ps : List (Int × Int × Int)} (h : NewParts B w z ps) (hb : Below w.heap.size w w') : NewParts B w' z ps := by
  refine ⟨h.1.later hb, ?_⟩
  rcases h.2 with h | ⟨b, m, h1, h2, h3, h4, h5⟩
  · exact .inl h
  · exact .inr ⟨b, m, h1, Nat.lt_of_lt_of_le h2 hb.size, h3, h4, h5.later hb⟩
/-- Only blocks from B to below C have turned; the list lies elsewhere. -/
theorem NewParts.mid {B0 B C : Nat} {w w' : World} {z : Option Addr} {ps : List (Int × Int × Int)} (h : NewParts B0 w z ps) (hm : Mid B C w w') (hz : ∀ b, z = some ⟨b, 0, none⟩ → b < w.heap.size → B0 ≤ b → (b < B ∨ C ≤ b)) : NewParts B0 w' z ps := by
  rcases h.2 with h0 | ⟨b, m, h1, h2, rfl, h4, h5⟩
  · exact ⟨fun k hk => by omega, .inl h0⟩
  · have hb := hz b rfl h2 h1
    refine ⟨fun k hk => ?_, .inr ⟨b, m, h1, Nat.lt_of_lt_of_le h2 hm.size, rfl, h4, hm.row hb h5⟩⟩
    obtain ⟨b', off, e, c0, c1, c2⟩ := h.1 k hk
    obtain ⟨rfl, rfl⟩ : b = b' ∧ 0 = off := by simpa using e
    exact ⟨b, 0, rfl, hm.cell hb c0, hm.cell hb c1, hm.cell hb c2⟩

theorem PartsAt.mid {B C : Nat} {w w' : World} {z : Option Addr} {ps : List (Int × Int × Int)} (h : PartsAt w z ps) (hm : Mid B C w w') (hz : ∀ b off, z = some ⟨b, off, none⟩ → ps.length = 0 ∨ b < B ∨ C ≤ b) : PartsAt w' z ps := by
  intro k hk
  obtain ⟨b, off, ha, h1, h2, h3⟩ := h k hk
  have hb' : b < B ∨ C ≤ b := by rcases hz b off ha with h | h <;> omega
  exact ⟨b, off, ha, hm.cell hb' h1, hm.cell hb' h2, hm.cell hb' h3⟩
theorem NewParts.lt {B : Nat} {w : World} {z : Option Addr} {ps : List (Int × Int × Int)} (h : NewParts B w z ps) : ∀ b off, z = some ⟨b, off, none⟩ → ps.length = 0 ∨ (B ≤ b ∧ b < w.heap.size) := by
  intro b off hab
  rcases h.2 with h | ⟨b', m, h1, h2, h3, _⟩
  · exact .inl h
  · rw [h3] at hab
    obtain ⟨rfl, rfl⟩ : b' = b ∧ 0 = off := by simpa using hab
    exact .inr ⟨h1, h2⟩
theorem LS.mid {B C : Nat} {w w1 w2 : World} {v0 v1 : Value} {q at' way : Int} (h : LS w w w1 v0 v1 q at' way) (hm : Mid B C w1 w2) (hB : w.heap.size + 1 < B) (hw : B ≤ w1.heap.size) : LS w w w2 v0 v1 q at' way :=
  ⟨⟨hm.cell (.inl (by omega)) h.1.1, hm.cell (.inl (by omega)) h.1.2.1, hm.cell (.inl (by omega)) h.1.2.2.1, hm.cell (.inl (by omega)) h.1.2.2.2.1, hm.cell (.inl (by omega)) h.1.2.2.2.2⟩, h.2.out.trans ((hm.below hw).mono (by omega))⟩

/-- The marks of a list that a call has made, or none. -/
def PMarked (w : World) (z : Option Addr) (n : Nat) (k : Int) : Prop := n = 0 ∨ ∃ b, z = some ⟨b, 0, none⟩ ∧ MarkedP w b n k
theorem PMarked.later {w w' : World} {z : Option Addr} {n : Nat} {k : Int} (h : PMarked w z n k) (hb : Below w.heap.size w w') : PMarked w' z n k := by
  rcases h with h | ⟨b, h1, h2⟩
  · exact .inl h
  · refine .inr ⟨b, h1, fun i hi => ?_⟩
    obtain ⟨c0, c1, c2⟩ := h2 i hi
    exact ⟨cell_later' hb c0, cell_later' hb c1, cell_later' hb c2⟩
end Go.Proofs.YtijdigdcmjdooaaGreat

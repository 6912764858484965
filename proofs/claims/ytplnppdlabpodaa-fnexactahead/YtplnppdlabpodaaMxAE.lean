/- Marks of lists of numbers and of parts. Own work. -/
import Derived.Test.YtplnppdlabpodaaMxAD
import Derived.Test.YtplnppdlabpodaaDrA
import Derived.Test.YtplnppdlabpodaaMkB
import Derived.Test.YtplnppdlabpodaaTo
namespace Go.Proofs.Ytplnppdlabpodaa
open Go.RowKit
set_option maxHeartbeats 2000000

/-- The marks of parts. -/
def MarkedP (w : World) (b n : Nat) (k : Int) : Prop := ∀ i, i < n → w.cell? ⟨b, i * 3, none⟩ = some (.int .i64 (k + 3 * i)) ∧ w.cell? ⟨b, i * 3 + 1, none⟩ = some (.int .i64 (k + 3 * i + 1)) ∧ w.cell? ⟨b, i * 3 + 2, none⟩ = some (.int .i64 (k + 3 * i + 2))

theorem markPartS_some (b n cap m : Nat) (k : Int) (w : World) (hn : n ≤ 1048576) (hm : n * 3 ≤ m) (h0 : 0 ≤ k) (h1 : k ≤ 1125899906842624) (hr : Row w b 119 m) :
    Calls Try.prog 44 #[.slice (some ⟨b, 0, none⟩) n cap, .int .i64 k] w fun e w' =>
    e = .returned (.int .i64 (k + 3 * n)) ∧ Mid b (b + 1) w w' ∧ Row w' b 119 m ∧ MarkedP w' b n k := by
  have HR := hide hr
  clear hr
  go_enter Try.func44, Try.ntmps44
  go_wp2
  go_loopw [1, 5] (fun q i wr => ∃ (t : Nat) (f : Nat → Value), t ≤ n ∧ i = .int .i64 t ∧ q = .int .i64 (k + 3 * t) ∧ Hid (wr.rowIs b 119 m f) ∧ Hid (∀ j, j < t → f (j * 3) = .int .i64 (k + 3 * j) ∧ f (j * 3 + 1) = .int .i64 (k + 3 * j + 1) ∧ f (j * 3 + 2) = .int .i64 (k + 3 * j + 2)) ∧ Mid b (b + 1) w wr) (fun _ i _ => n - (intOf i).toNat)
  case atStart =>
    obtain ⟨f, hf⟩ := HR.out
    exact ⟨0, f, Nat.zero_le _, rfl, by simp, hf, (fun j hj => by omega), Mid.refl _ _ _⟩
  case round =>
    obtain ⟨t, f, ht, rfl, rfl, hf, hfs, hm'⟩ := hrel
    by_cases hlt : t < n
    · have d0 := hf.out.cell (i := t * 3) (by omega)
      have d1 := hf.out.cell (i := t * 3 + 1) (by omega)
      have d2 := hf.out.cell (i := t * 3 + 2) (by omega)
      have z0 := hf.out.frozen (t * 3)
      have z1 := hf.out.frozen (t * 3 + 1)
      have z2 := hf.out.frozen (t * 3 + 2)
      go_wp2
      go_roundw
      case rel =>
        refine ⟨t + 1, _, by omega, by go_num, ?_, ((hf.out.set _ _).set _ _).set _ _, ?_, ((hm'.setCell (Nat.le_refl _) (by omega) _).setCell (Nat.le_refl _) (by omega) _).setCell (Nat.le_refl _) (by omega) _⟩
        · congr 1; omega
        · intro j hj
          by_cases e : j = t
          · subst e
            refine ⟨?_, ?_, ?_⟩
            · rw [if_neg (by omega), if_neg (by omega), if_pos rfl]
            · rw [if_neg (by omega), if_pos rfl]
            · rw [if_pos rfl]; congr 1; omega
          · have := hfs.out j (by omega)
            refine ⟨?_, ?_, ?_⟩
            · rw [if_neg (by omega), if_neg (by omega), if_neg (by omega)]; exact this.1
            · rw [if_neg (by omega), if_neg (by omega), if_neg (by omega)]; exact this.2.1
            · rw [if_neg (by omega), if_neg (by omega), if_neg (by omega)]; exact this.2.2
      case measure => simp [intOf]; omega
    · obtain rfl : t = n := by omega
      go_wp2
      go_ret
      refine ⟨rfl, hm', ⟨f, hf.out⟩, ?_⟩
      intro i hi
      have := hfs.out i hi
      exact ⟨by rw [hf.out.cell (by omega), this.1], by rw [hf.out.cell (by omega), this.2.1], by rw [hf.out.cell (by omega), this.2.2]⟩

theorem markPartS_none (a : Option Addr) (cap : Nat) (k : Int) (w : World) :
    Calls Try.prog 44 #[.slice a 0 cap, .int .i64 k] w fun e w' => e = .returned (.int .i64 k) ∧ w = w' := by
  go_enter Try.func44, Try.ntmps44
  go_wp2
  go_loop [1, 5] (fun q i => q = .int .i64 k ∧ i = .int .i64 0) (fun _ i => 0)
  case atStart => exact ⟨rfl, rfl⟩
  case round =>
    obtain ⟨rfl, rfl⟩ := hrel
    go_wp2
    go_ret
    exact ⟨rfl, rfl⟩

theorem heldPartS_any (b n cap : Nat) (a : Option Addr) (k : Int) (w : World) (hn : n ≤ 1048576) (h0 : 0 ≤ k) (h1 : k ≤ 1125899906842624) (hm : n = 0 ∨ (a = some ⟨b, 0, none⟩ ∧ MarkedP w b n k)) :
    Calls Try.prog 45 #[.slice a n cap, .int .i64 k] w fun e w' => e = .returned (.int .i64 (k + 3 * n)) ∧ w = w' := by
  have HM := hide hm
  clear hm
  go_enter Try.func45, Try.ntmps45
  go_wp2
  go_loop [1, 5] (fun q i => ∃ (t : Nat), t ≤ n ∧ i = .int .i64 t ∧ q = .int .i64 (k + 3 * t)) (fun _ i => n - (intOf i).toNat)
  case atStart => exact ⟨0, Nat.zero_le _, rfl, by simp⟩
  case round =>
    obtain ⟨t, ht, rfl, rfl⟩ := hrel
    by_cases hlt : t < n
    · obtain ⟨rfl, hM⟩ : a = some ⟨b, 0, none⟩ ∧ MarkedP w b n k := by
        rcases HM.out with h | h
        · omega
        · exact h
      obtain ⟨d0, d1, d2⟩ := hM t hlt
      have HM2 := hide hM
      clear hM
      have d2' : w.cell? ⟨b, t * 3 + 2, none⟩ = some (.int .i64 (k + 3 * t + 1 + 1)) := by rw [d2]; congr 2; omega
      clear d2
      go_wp2
      refine ⟨⟨t + 1, by omega, by go_num, ?_⟩, by simp [intOf]; omega⟩
      congr 1; omega
    · obtain rfl : t = n := by omega
      go_wp2
      go_ret
      exact ⟨rfl, rfl⟩

theorem markIntS_any (b n cap : Nat) (k : Int) (w : World) (hn : n ≤ 1048576) (h0 : 0 ≤ k) (h1 : k ≤ 1125899906842624) (hr : Row w b 3 n) :
    Calls Try.prog 43 #[.slice (some ⟨b, 0, none⟩) n cap, .int .i64 k] w fun e w' =>
    e = .returned (.int .i64 (k + n)) ∧ Mid b (b + 1) w w' ∧ Row w' b 3 n := by
  have HR := hide hr
  clear hr
  go_enter Try.func43, Try.ntmps43
  go_wp2
  go_loopw [1, 5] (fun q i wr => ∃ (t : Nat) (f : Nat → Value), t ≤ n ∧ i = .int .i64 t ∧ q = .int .i64 (k + t) ∧ Hid (wr.rowIs b 3 n f) ∧ Mid b (b + 1) w wr) (fun _ i _ => n - (intOf i).toNat)
  case atStart =>
    obtain ⟨f, hf⟩ := HR.out
    exact ⟨0, f, Nat.zero_le _, rfl, by simp, hf, Mid.refl _ _ _⟩
  case round =>
    obtain ⟨t, f, ht, rfl, rfl, hf, hm'⟩ := hrel
    by_cases hlt : t < n
    · have d0 := hf.out.cell (i := t) (by omega)
      have z0 := hf.out.frozen t
      go_wp2
      refine ⟨⟨t + 1, _, by omega, by go_num, ?_, hf.out.set _ _, hm'.setCell (Nat.le_refl _) (by omega) _⟩, by simp [intOf]; omega⟩
      congr 1; omega
    · obtain rfl : t = n := by omega
      go_wp2
      go_ret
      exact ⟨rfl, hm', ⟨f, hf.out⟩⟩

/-- What is owned as a row of parts is a list of parts in memory. -/
theorem partCells_at (ps : List (Int × Int × Int)) : ∀ k (hk : k < ps.length), (partCells ps)[k * 3]? = some (.int .i64 ps[k].1) ∧ (partCells ps)[k * 3 + 1]? = some (.int .i64 ps[k].2.1) ∧ (partCells ps)[k * 3 + 2]? = some (.int .i64 ps[k].2.2) := by
  induction ps with
  | nil => intro k hk; simp at hk
  | cons p ps ih =>
    intro k hk
    have e : partCells (p :: ps) = .int .i64 p.1 :: .int .i64 p.2.1 :: .int .i64 p.2.2 :: partCells ps := rfl
    rw [e]
    cases k with
    | zero => exact ⟨rfl, rfl, rfl⟩
    | succ k =>
      have := ih k (by simpa using hk)
      have e3 : (k + 1) * 3 = k * 3 + 1 + 1 + 1 := by omega
      rw [e3]
      simpa using this

theorem partCells_length (ps : List (Int × Int × Int)) : (partCells ps).length = ps.length * 3 := by
  induction ps with
  | nil => rfl
  | cons p ps ih =>
    have e : partCells (p :: ps) = .int .i64 p.1 :: .int .i64 p.2.1 :: .int .i64 p.2.2 :: partCells ps := rfl
    rw [e]
    simp only [List.length_cons, ih]
    omega

theorem parts_of_owns {w : World} {base : Nat} {e : TypeId} {v : Value} {ps : List (Int × Int × Int)} (h : w.ownsRow base e 3 v ps.length (partCells ps)) :
    (v = .slice none 0 0 ∧ ps = []) ∨ ∃ b cap, v = .slice (some ⟨b, 0, none⟩) ps.length cap ∧ base ≤ b ∧ ps.length ≤ cap ∧ PartsAt w (some ⟨b, 0, none⟩) ps ∧ Row w b e (cap * 3) := by
  rcases h.2 with ⟨hv, h0⟩ | ⟨g, cap, cur, hv, hb, hg, hn, _, hsz, htk⟩
  · exact .inl ⟨hv, List.eq_nil_of_length_eq_zero h0⟩
  · refine .inr ⟨g, cap, hv, hb, hn, ?_, ?_⟩
    · have hcell : ∀ j, j < ps.length * 3 → w.cell? ⟨g, j, none⟩ = (partCells ps)[j]? := by
        intro j hj
        rw [hv] at h
        exact h.cellAt j hj
      intro k hk
      obtain ⟨p0, p1, p2⟩ := partCells_at ps k hk
      refine ⟨g, 0, rfl, ?_, ?_, ?_⟩
      · rw [Nat.zero_add, hcell _ (by omega), p0]
      · rw [Nat.zero_add, hcell _ (by omega), p1]
      · rw [Nat.zero_add, hcell _ (by omega), p2]
    · exact ⟨fun i => cur[i]!, cur, hg, hsz, fun i hi => by simp [hsz, hi]⟩

end Go.Proofs.Ytplnppdlabpodaa

namespace Go.Proofs.Ytplnppdlabpodaa
open Go.RowKit
set_option maxHeartbeats 1000000

theorem conv1 (wr : World) (x : Int) : (convert 182 9 (.slice (some ⟨wr.heap.size, 0, none⟩) 1 1)).run Try.prog (wr.alloc (.cells #[.int .u8 x] 5)) = .ok (.string (ByteArray.empty.push (UInt8.ofNat x.toNat))) (wr.alloc (.cells #[.int .u8 x] 5)) := by
  rw [run_convert_bytes_string _ _ _ _ _ _ _ Try.underlying182 Try.underlying5 Try.underlying9]
  rw [run_bytesToString _ _ _ _ [x] (by simp [loadCells, go_sem])]
  rfl

def md : Nat → Int → ByteArray → ByteArray
  | 0, _, s => s
  | f + 1, n, s => if n ≤ 0 then s else md f (n / 10) (ByteArray.empty.push (UInt8.ofNat (48 + n % 10).toNat) ++ s)

theorem md_fuel (f : Nat) : ∀ (g : Nat) (n : Int) (s : ByteArray), n.toNat < f → n.toNat < g → md f n s = md g n s := by
  induction f with
  | zero => intro g n s h; omega
  | succ f ih =>
    intro g n s hf hg
    match g, hg with
    | g + 1, hg =>
      by_cases hn : n ≤ 0
      · simp [md, hn]
      · rw [md, md, if_neg hn, if_neg hn]
        exact ih g (n / 10) _ (by omega) (by omega)

theorem size_dig (c : UInt8) (s : ByteArray) : (ByteArray.empty.push c ++ s).size = 1 + s.size := by
  rw [ByteArray.size_append, ByteArray.size_push]; rfl
end Go.Proofs.Ytplnppdlabpodaa

namespace Go.Proofs.Ytplnppdlabpodaa
open Go.RowKit
set_option maxHeartbeats 1000000

def mtext (k : Int) : ByteArray := if k ≤ 0 then ⟨#[109, 48]⟩ else ⟨#[109]⟩ ++ md (k.toNat + 1) k ⟨#[]⟩

set_option maxRecDepth 20000 in
theorem markText_any (k : Int) (w : World) (h0 : 0 ≤ k) (h1 : k ≤ 1152921504606846976) :
    Calls Try.prog 114 #[.int .i64 k] w fun e w' =>
    e = .returned (.string (mtext k)) ∧ Below w.heap.size w w' := by
  by_cases hk : k ≤ 0
  · have HM := hide (show mtext k = ⟨#[109, 48]⟩ by simp [mtext, hk])
    go_enter Try.func114, Try.ntmps114
    go_wp2
    go_ret
    refine ⟨?_, Below.refl _ _⟩
    rw [HM.out]
    rfl
  · have HM := hide (show mtext k = ⟨#[109]⟩ ++ md (k.toNat + 1) k ⟨#[]⟩ by simp [mtext, hk])
    generalize hR : md (k.toNat + 1) k ⟨#[]⟩ = R at HM
    have HR := hide hR
    clear hR
    go_enter Try.func114, Try.ntmps114
    go_wp2
    go_loopw [0, 3] (fun i q wr => ∃ (n : Int) (s : ByteArray), 0 ≤ n ∧ i = .int .i64 n ∧ q = .string s ∧ n + s.size ≤ k ∧ Hid (md (n.toNat + 1) n s = R) ∧ Below w.heap.size w wr) (fun i _ _ => (intOf i).toNat)
    case atStart => exact ⟨k, ⟨#[]⟩, by omega, rfl, rfl, by simp [ByteArray.size], HR, Below.refl _ _⟩
    case round =>
      obtain ⟨n, s, hn, rfl, rfl, hs, hmd, hb⟩ := hrel
      by_cases hpos : 0 < n
      · have hcv := conv1 wr (48 + n % 10)
        go_wp2
        refine ⟨⟨n / 10, _, by omega, rfl, rfl, ?_, ?_, hb.alloc hb.size _⟩, ?_⟩
        · rw [size_dig]; omega
        · have h := hmd.out
          rw [md, if_neg (by omega)] at h
          show md _ _ _ = _
          rw [← h]
          exact md_fuel _ _ _ _ (by omega) (by omega)
        · simp [intOf]; omega
      · have h := hmd.out
        rw [md, if_pos (by omega)] at h
        have HH := hide h
        clear h
        go_wp2
        go_ret
        refine ⟨?_, hb⟩
        rw [HM.out, ← HH.out]
        rfl
end Go.Proofs.Ytplnppdlabpodaa

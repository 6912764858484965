/- Marks of lists of numbers and of parts. Own work. -/
import Derived.Test.YtncanhbmbjoamacGreatMxAQ
import Derived.Test.YtncanhbmbjoamacGreatMxAM
import Derived.Test.YtncanhbmbjoamacGreatDrA
import Derived.Test.YtncanhbmbjoamacGreatMxAV
import Derived.Test.YtncanhbmbjoamacGreatMxAO
import Derived.Test.YtncanhbmbjoamacGreatMxAW
namespace Go.Proofs.YtncanhbmbjoamacGreat
open Go.RowKit
set_option maxHeartbeats 2000000

/-- The marks of parts. -/
def MarkedP (w : World) (b n : Nat) (k : Int) : Prop := ∀ i, i < n → w.cell? ⟨b, i * 3, none⟩ = some (.int .i64 (k + 3 * i)) ∧ w.cell? ⟨b, i * 3 + 1, none⟩ = some (.int .i64 (k + 3 * i + 1)) ∧ w.cell? ⟨b, i * 3 + 2, none⟩ = some (.int .i64 (k + 3 * i + 2))

theorem markPartS_some (b n cap m : Nat) (k : Int) (w : World) (hn : n ≤ 1048576) (hm : n * 3 ≤ m) (h0 : 0 ≤ k) (h1 : k ≤ 1125899906842624) (hr : Row w b 72 m) :
    Calls Tryz.prog 16 #[.slice (some ⟨b, 0, none⟩) n cap, .int .i64 k] w fun e w' =>
    e = .returned (.int .i64 (k + 3 * n)) ∧ Mid b (b + 1) w w' ∧ Row w' b 72 m ∧ MarkedP w' b n k := by
  have HR := hide hr
  clear hr
  go_enter Tryz.func16, Tryz.ntmps16
  go_wp2
  go_loopw [1, 5] (fun q i wr => ∃ (t : Nat) (f : Nat → Value), t ≤ n ∧ i = .int .i64 t ∧ q = .int .i64 (k + 3 * t) ∧ Hid (wr.rowIs b 72 m f) ∧ Hid (∀ j, j < t → f (j * 3) = .int .i64 (k + 3 * j) ∧ f (j * 3 + 1) = .int .i64 (k + 3 * j + 1) ∧ f (j * 3 + 2) = .int .i64 (k + 3 * j + 2)) ∧ Mid b (b + 1) w wr) (fun _ i _ => n - (intOf i).toNat)
  case atStart =>
    obtain ⟨f, hf⟩ := HR.out
    exact ⟨0, f, Nat.zero_le _, rfl, by simp, hf, (fun j hj => by omega), Mid.refl _ _ _⟩
  case round =>
    obtain ⟨t, f, ht, rfl, rfl, hf, hfs, hm'⟩ := hrel
    by_cases hlt : t < n
    · have d0 := hf.out.cell (i := t * 3) (by omega)
      have d1 := hf.out.cell (i := t * 3 + 1) (by omega)
      have d2 := hf.out.cell (i := t * 3 + 2) (by omega)
      have z0 := hf.out.frozen (t * 3)
      have z1 := hf.out.frozen (t * 3 + 1)
      have z2 := hf.out.frozen (t * 3 + 2)
      go_wp2
      go_roundw
      case rel =>
        refine ⟨t + 1, _, by omega, by go_num, ?_, ((hf.out.set _ _).set _ _).set _ _, ?_, ((hm'.setCell (Nat.le_refl _) (by omega) _).setCell (Nat.le_refl _) (by omega) _).setCell (Nat.le_refl _) (by omega) _⟩
        · congr 1; omega
        · intro j hj
          by_cases e : j = t
          · subst e
            refine ⟨?_, ?_, ?_⟩
            · rw [if_neg (by omega), if_neg (by omega), if_pos rfl]
            · rw [if_neg (by omega), if_pos rfl]
            · rw [if_pos rfl]; congr 1; omega
          · have := hfs.out j (by omega)
            refine ⟨?_, ?_, ?_⟩
            · rw [if_neg (by omega), if_neg (by omega), if_neg (by omega)]; exact this.1
            · rw [if_neg (by omega), if_neg (by omega), if_neg (by omega)]; exact this.2.1
            · rw [if_neg (by omega), if_neg (by omega), if_neg (by omega)]; exact this.2.2
      case measure => simp [intOf]; omega
    · obtain rfl : t = n := by omega
      go_wp2
      go_ret
      refine ⟨rfl, hm', ⟨f, hf.out⟩, ?_⟩
      intro i hi
      have := hfs.out i hi
      exact ⟨by rw [hf.out.cell (by omega), this.1], by rw [hf.out.cell (by omega), this.2.1], by rw [hf.out.cell (by omega), this.2.2]⟩

theorem markPartS_none (a : Option Addr) (cap : Nat) (k : Int) (w : World) :
    Calls Tryz.prog 16 #[.slice a 0 cap, .int .i64 k] w fun e w' => e = .returned (.int .i64 k) ∧ w = w' := by
  go_enter Tryz.func16, Tryz.ntmps16
  go_wp2
  go_loop [1, 5] (fun q i => q = .int .i64 k ∧ i = .int .i64 0) (fun _ i => 0)
  case atStart => exact ⟨rfl, rfl⟩
  case round =>
    obtain ⟨rfl, rfl⟩ := hrel
    go_wp2
    go_ret
    exact ⟨rfl, rfl⟩

theorem heldPartS_any (b n cap : Nat) (a : Option Addr) (k : Int) (w : World) (hn : n ≤ 1048576) (h0 : 0 ≤ k) (h1 : k ≤ 1125899906842624) (hm : n = 0 ∨ (a = some ⟨b, 0, none⟩ ∧ MarkedP w b n k)) :
    Calls Tryz.prog 17 #[.slice a n cap, .int .i64 k] w fun e w' => e = .returned (.int .i64 (k + 3 * n)) ∧ w = w' := by
  have HM := hide hm
  clear hm
  go_enter Tryz.func17, Tryz.ntmps17
  go_wp2
  go_loop [1, 5] (fun q i => ∃ (t : Nat), t ≤ n ∧ i = .int .i64 t ∧ q = .int .i64 (k + 3 * t)) (fun _ i => n - (intOf i).toNat)
  case atStart => exact ⟨0, Nat.zero_le _, rfl, by simp⟩
  case round =>
    obtain ⟨t, ht, rfl, rfl⟩ := hrel
    by_cases hlt : t < n
    · obtain ⟨rfl, hM⟩ : a = some ⟨b, 0, none⟩ ∧ MarkedP w b n k := by
        rcases HM.out with h | h
        · omega
        · exact h
      obtain ⟨d0, d1, d2⟩ := hM t hlt
      have HM2 := hide hM
      clear hM
      have d2' : w.cell? ⟨b, t * 3 + 2, none⟩ = some (.int .i64 (k + 3 * t + 1 + 1)) := by rw [d2]; congr 2; omega
      clear d2
      go_wp2
      refine ⟨⟨t + 1, by omega, by go_num, ?_⟩, by simp [intOf]; omega⟩
      congr 1; omega
    · obtain rfl : t = n := by omega
      go_wp2
      go_ret
      exact ⟨rfl, rfl⟩

/-- What is owned as a row of parts is a list of parts in memory. -/
theorem partCells_at (ps : List (Int × Int × Int)) : ∀ k (hk : k < ps.length), (partCells ps)[k * 3]? = some (.int .i64 ps[k].1) ∧ (partCells ps)[k * 3 + 1]? = some (.int .i64 ps[k].2.1) ∧ (partCells ps)[k * 3 + 2]? = some (.int .i64 ps[k].2.2) := by
  induction ps with
  | nil => intro k hk; simp at hk
  | cons p ps ih =>
    intro k hk
    have e : partCells (p :: ps) = .int .i64 p.1 :: .int .i64 p.2.1 :: .int .i64 p.2.2 :: partCells ps := rfl
    rw [e]
    cases k with
    | zero => exact ⟨rfl, rfl, rfl⟩
    | succ k =>
      have := ih k (by simpa using hk)
      have e3 : (k + 1) * 3 = k * 3 + 1 + 1 + 1 := by omega
      rw [e3]
      simpa using this

theorem partCells_length (ps : List (Int × Int × Int)) : (partCells ps).length = ps.length * 3 := by
  induction ps with
  | nil => rfl
  | cons p ps ih =>
    have e : partCells (p :: ps) = .int .i64 p.1 :: .int .i64 p.2.1 :: .int .i64 p.2.2 :: partCells ps := rfl
    rw [e]
    simp only [List.length_cons, ih]
    omega

theorem parts_of_owns {w : World} {base : Nat} {e : TypeId} {v : Value} {ps : List (Int × Int × Int)} (h : w.ownsRow base e 3 v ps.length (partCells ps)) :
    (v = .slice none 0 0 ∧ ps = []) ∨ ∃ b cap, v = .slice (some ⟨b, 0, none⟩) ps.length cap ∧ base ≤ b ∧ ps.length ≤ cap ∧ PartsAt w (some ⟨b, 0, none⟩) ps ∧ Row w b e (cap * 3) := by
  rcases h.2 with ⟨hv, h0⟩ | ⟨g, cap, cur, hv, hb, hg, hn, _, hsz, htk⟩
  · exact .inl ⟨hv, List.eq_nil_of_length_eq_zero h0⟩
  · refine .inr ⟨g, cap, hv, hb, hn, ?_, ?_⟩
    · have hcell : ∀ j, j < ps.length * 3 → w.cell? ⟨g, j, none⟩ = (partCells ps)[j]? := by
        intro j hj
        rw [hv] at h
        exact h.cellAt j hj
      intro k hk
      obtain ⟨p0, p1, p2⟩ := partCells_at ps k hk
      refine ⟨g, 0, rfl, ?_, ?_, ?_⟩
      · rw [Nat.zero_add, hcell _ (by omega), p0]
      · rw [Nat.zero_add, hcell _ (by omega), p1]
      · rw [Nat.zero_add, hcell _ (by omega), p2]
    · exact ⟨fun i => cur[i]!, cur, hg, hsz, fun i hi => by simp [hsz, hi]⟩

end Go.Proofs.YtncanhbmbjoamacGreat

/- Lists of parts that a call has made. Own work. -/
namespace Go.Proofs.YtncanhbmbjoamacGreat
open Go.RowKit
set_option maxHeartbeats 8000000

/-- A list of parts that a call has made from block B on, or none. -/
def NewParts (B : Nat) (w : World) (z : Option Addr) (ps : List (Int × Int × Int)) : Prop :=
  PartsAt w z ps ∧ (ps.length = 0 ∨ ∃ b m, B ≤ b ∧ b < w.heap.size ∧ z = some ⟨b, 0, none⟩ ∧ ps.length * 3 ≤ m ∧ Row w b 72 m)
theorem newParts {w : World} {base : Nat} {v : Value} {ps : List (Int × Int × Int)} (h : w.ownsRow base 72 3 v ps.length (partCells ps)) : ∃ z zc, v = .slice z ps.length zc ∧ NewParts base w z ps := by
  rcases parts_of_owns h with ⟨rfl, rfl⟩ | ⟨b, cap, rfl, hb, hn, hP, hR⟩
  · exact ⟨none, 0, rfl, fun k hk => by simp at hk, .inl rfl⟩
  · exact ⟨_, cap, rfl, hP, .inr ⟨b, cap * 3, hb, by obtain ⟨f, hf⟩ := hR; exact hf.lt, rfl, by omega, hR⟩⟩
theorem NewParts.later {B : Nat} {w w' : World} {z : Option Addr} {ps : List (Int × Int × Int)} (h : NewParts B w z ps) (hb : Below w.heap.size w w') : NewParts B w' z ps := by
  refine ⟨h.1.later hb, ?_⟩
  rcases h.2 with h | ⟨b, m, h1, h2, h3, h4, h5⟩
  · exact .inl h
  · exact .inr ⟨b, m, h1, Nat.lt_of_lt_of_le h2 hb.size, h3, h4, h5.later hb⟩
/-- Only blocks from B to below C have turned; the list lies elsewhere. -/
theorem NewParts.mid {B0 B C : Nat} {w w' : World} {z : Option Addr} {ps : List (Int × Int × Int)} (h : NewParts B0 w z ps) (hm : Mid B C w w') (hz : ∀ b, z = some ⟨b, 0, none⟩ → b < w.heap.size → B0 ≤ b → (b < B ∨ C ≤ b)) : NewParts B0 w' z ps := by
  rcases h.2 with h0 | ⟨b, m, h1, h2, rfl, h4, h5⟩
  · exact ⟨fun k hk => by omega, .inl h0⟩
  · have hb := hz b rfl h2 h1
    refine ⟨fun k hk => ?_, .inr ⟨b, m, h1, Nat.lt_of_lt_of_le h2 hm.size, rfl, h4, hm.row hb h5⟩⟩
    obtain ⟨b', off, e, c0, c1, c2⟩ := h.1 k hk
    obtain ⟨rfl, rfl⟩ : b = b' ∧ 0 = off := by simpa using e
    exact ⟨b, 0, rfl, hm.cell hb c0, hm.cell hb c1, hm.cell hb c2⟩

theorem PartsAt.mid {B C : Nat} {w w' : World} {z : Option Addr} {ps : List (Int × Int × Int)} (h : PartsAt w z ps) (hm : Mid B C w w') (hz : ∀ b off, z = some ⟨b, off, none⟩ → ps.length = 0 ∨ b < B ∨ C ≤ b) : PartsAt w' z ps := by
  intro k hk
  obtain ⟨b, off, ha, h1, h2, h3⟩ := h k hk
  have hb' : b < B ∨ C ≤ b := by rcases hz b off ha with h | h <;> omega
  exact ⟨b, off, ha, hm.cell hb' h1, hm.cell hb' h2, hm.cell hb' h3⟩
theorem NewParts.lt {B : Nat} {w : World} {z : Option Addr} {ps : List (Int × Int × Int)} (h : NewParts B w z ps) : ∀ b off, z = some ⟨b, off, none⟩ → ps.length = 0 ∨ (B ≤ b ∧ b < w.heap.size) := by
  intro b off hab
  rcases h.2 with h | ⟨b', m, h1, h2, h3, _⟩
  · exact .inl h
  · rw [h3] at hab
    obtain ⟨rfl, rfl⟩ : b' = b ∧ 0 = off := by simpa using hab
    exact .inr ⟨h1, h2⟩
theorem LS.mid {B C : Nat} {w w1 w2 : World} {v0 v1 : Value} {q at' way : Int} (h : LS w w w1 v0 v1 q at' way) (hm : Mid B C w1 w2) (hB : w.heap.size + 1 < B) (hw : B ≤ w1.heap.size) : LS w w w2 v0 v1 q at' way :=
  ⟨⟨hm.cell (.inl (by omega)) h.1.1, hm.cell (.inl (by omega)) h.1.2.1, hm.cell (.inl (by omega)) h.1.2.2.1, hm.cell (.inl (by omega)) h.1.2.2.2.1, hm.cell (.inl (by omega)) h.1.2.2.2.2⟩, h.2.out.trans ((hm.below hw).mono (by omega))⟩

/-- The marks of a list that a call has made, or none. -/
def PMarked (w : World) (z : Option Addr) (n : Nat) (k : Int) : Prop := n = 0 ∨ ∃ b, z = some ⟨b, 0, none⟩ ∧ MarkedP w b n k
theorem PMarked.later {w w' : World} {z : Option Addr} {n : Nat} {k : Int} (h : PMarked w z n k) (hb : Below w.heap.size w w') : PMarked w' z n k := by
  rcases h with h | ⟨b, h1, h2⟩
  · exact .inl h
  · refine .inr ⟨b, h1, fun i hi => ?_⟩
    obtain ⟨c0, c1, c2⟩ := h2 i hi
    exact ⟨cell_later' hb c0, cell_later' hb c1, cell_later' hb c2⟩
theorem markParts_own {B : Nat} {w : World} {z : Option Addr} {ps : List (Int × Int × Int)} (zc : Nat) (h : NewParts B w z ps) (hn : ps.length ≤ 1048576) :
    Calls Tryz.prog 16 #[.slice z ps.length zc, .int .i64 1] w fun e w' => e = .returned (.int .i64 (1 + 3 * ps.length)) ∧ Mid B w.heap.size w w' ∧ PMarked w' z ps.length 1 := by
  rcases h.2 with h0 | ⟨b, m, h1, h2, rfl, h4, h5⟩
  · rw [h0]
    refine (markPartS_none z zc 1 w).mono ?_
    rintro e w' ⟨rfl, rfl⟩
    exact ⟨by simp, Mid.refl _ _ _, .inl rfl⟩
  · refine (markPartS_some b ps.length zc m 1 w hn h4 (by omega) (by omega) h5).mono ?_
    rintro e w' ⟨rfl, hm, _, hmk⟩
    exact ⟨rfl, hm.wide h1 (by omega), .inr ⟨b, rfl, hmk⟩⟩
theorem heldParts_own {w : World} {z : Option Addr} {n : Nat} (zc : Nat) (h : PMarked w z n 1) (hn : n ≤ 1048576) :
    Calls Tryz.prog 17 #[.slice z n zc, .int .i64 1] w fun e w' => e = .returned (.int .i64 (1 + 3 * n)) ∧ w = w' := by
  rcases h with h | ⟨b, h1, h2⟩
  · exact heldPartS_any 0 n zc z 1 w hn (by omega) (by omega) (.inl h)
  · exact heldPartS_any b n zc z 1 w hn (by omega) (by omega) (.inr ⟨h1, h2⟩)
end Go.Proofs.YtncanhbmbjoamacGreat

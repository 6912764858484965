/- Lists of spots: eq, marks, what a call has made. Own work. -/
import Derived.Test.YtijdigdcmjdooaaGreatMxAF
import Derived.Test.YtijdigdcmjdooaaGreatMxAB
import Derived.Test.YtijdigdcmjdooaaGreatMxAA
import Derived.Maps.OwnSet
import Derived.Maps.Views
import Derived.DeepKeys4
import Derived.Lib.SmallJoins
import Derived.Test.YtijdigdcmjdooaaGreatMxAE
namespace Go.Proofs.YtijdigdcmjdooaaGreat
open Go.RowKit
set_option maxHeartbeats 8000000

theorem eqSpotS_same (a a' : Option Addr) (es : List (Int × Int × Int)) (cap cap' : Nat) (w : World) (hn : es.length ≤ 1048576) (hp : PartsAt w a es) (hp' : PartsAt w a' es) :
    Calls Tryz.prog 17 #[.slice a es.length cap, .slice a' es.length cap'] w fun e w' =>
    e = .returned (.bool true) ∧ Below w.heap.size w w' := by
  have HP := hide hp
  have HP' := hide hp'
  clear hp hp'
  go_enter Tryz.func17, Tryz.ntmps17
  go_wp2
  go_loopw [5] (fun i wr => ∃ (k : Nat), k ≤ es.length ∧ i = .int .i64 k ∧ Below w.heap.size w wr) (fun i _ => es.length - (intOf i).toNat)
  case atStart => exact ⟨0, Nat.zero_le _, rfl, Below.refl _ _⟩
  case round =>
    obtain ⟨k, hk, rfl, hb⟩ := hrel
    by_cases hlt : k < es.length
    · obtain ⟨b, off, rfl, c0, c1, c2⟩ := (PartsAt.later HP.out hb) k hlt
      obtain ⟨b', off', rfl, c0', c1', c2'⟩ := (PartsAt.later HP'.out hb) k hlt
      go_wp2_with fail
      go_region_with (go_at_call 49; refine (eqSpot_same _ _ _ _).mono ?_; rintro e w1 ⟨rfl, hb1⟩)
      all_goals
        have hb2 := hb.trans (Below.mono (Below.trans (Below.drew (Below.refl _ _)) hb1) hb.size)
        go_wp2_with fail
        go_roundw
        case rel => exact ⟨k + 1, by omega, by go_num, hb2⟩
        case measure => simp [intOf]; omega
    · go_wp2_with fail
      go_ret
      exact ⟨rfl, hb⟩
theorem markSpotS_some (b n cap m : Nat) (k : Int) (w : World) (hn : n ≤ 1048576) (hm : n * 3 ≤ m) (h0 : 0 ≤ k) (h1 : k ≤ 1125899906842624) (hr : Row w b 29 m) :
    Calls Tryz.prog 20 #[.slice (some ⟨b, 0, none⟩) n cap, .int .i64 k] w fun e w' =>
    e = .returned (.int .i64 (k + 3 * n)) ∧ Mid b (b + 1) w w' ∧ Row w' b 29 m ∧ MarkedP w' b n k := by
  have HR := hide hr
  clear hr
  go_enter Tryz.func20, Tryz.ntmps20
  go_wp2
  go_loopw [1, 5] (fun q i wr => ∃ (t : Nat) (f : Nat → Value), t ≤ n ∧ i = .int .i64 t ∧ q = .int .i64 (k + 3 * t) ∧ Hid (wr.rowIs b 29 m f) ∧ Hid (∀ j, j < t → f (j * 3) = .int .i64 (k + 3 * j) ∧ f (j * 3 + 1) = .int .i64 (k + 3 * j + 1) ∧ f (j * 3 + 2) = .int .i64 (k + 3 * j + 2)) ∧ Mid b (b + 1) w wr) (fun _ i _ => n - (intOf i).toNat)
  case atStart =>
    obtain ⟨f, hf⟩ := HR.out
    exact ⟨0, f, Nat.zero_le _, rfl, by simp, hf, (fun j hj => by omega), Mid.refl _ _ _⟩
  case round =>
    obtain ⟨t, f, ht, rfl, rfl, hf, hfs, hm'⟩ := hrel
    by_cases hlt : t < n
    · have d0 := hf.out.cell (i := t * 3) (by omega)
      have d1 := hf.out.cell (i := t * 3 + 1) (by omega)
      have d2 := hf.out.cell (i := t * 3 + 2) (by omega)
      have z0 := hf.out.frozen (t * 3)
      have z1 := hf.out.frozen (t * 3 + 1)
      have z2 := hf.out.frozen (t * 3 + 2)
      go_wp2
      go_roundw
      case rel =>
        refine ⟨t + 1, _, by omega, by go_num, ?_, ((hf.out.set _ _).set _ _).set _ _, ?_, ((hm'.setCell (Nat.le_refl _) (by omega) _).setCell (Nat.le_refl _) (by omega) _).setCell (Nat.le_refl _) (by omega) _⟩
        · congr 1; omega
        · intro j hj
          by_cases e : j = t
          · subst e
            refine ⟨?_, ?_, ?_⟩
            · rw [if_neg (by omega), if_neg (by omega), if_pos rfl]
            · rw [if_neg (by omega), if_pos rfl]
            · rw [if_pos rfl]; congr 1; omega
          · have := hfs.out j (by omega)
            refine ⟨?_, ?_, ?_⟩
            · rw [if_neg (by omega), if_neg (by omega), if_neg (by omega)]; exact this.1
            · rw [if_neg (by omega), if_neg (by omega), if_neg (by omega)]; exact this.2.1
            · rw [if_neg (by omega), if_neg (by omega), if_neg (by omega)]; exact this.2.2
      case measure => simp [intOf]; omega
    · obtain rfl : t = n := by omega
      go_wp2
      go_ret
      refine ⟨rfl, hm', ⟨f, hf.out⟩, ?_⟩
      intro i hi
      have := hfs.out i hi
      exact ⟨by rw [hf.out.cell (by omega), this.1], by rw [hf.out.cell (by omega), this.2.1], by rw [hf.out.cell (by omega), this.2.2]⟩

theorem markSpotS_none (a : Option Addr) (cap : Nat) (k : Int) (w : World) :
    Calls Tryz.prog 20 #[.slice a 0 cap, .int .i64 k] w fun e w' => e = .returned (.int .i64 k) ∧ w = w' := by
  go_enter Tryz.func20, Tryz.ntmps20
  go_wp2
  go_loop [1, 5] (fun q i => q = .int .i64 k ∧ i = .int .i64 0) (fun _ i => 0)
  case atStart => exact ⟨rfl, rfl⟩
  case round =>
    obtain ⟨rfl, rfl⟩ := hrel
    go_wp2
    go_ret
    exact ⟨rfl, rfl⟩

theorem heldSpotS_any (b n cap : Nat) (a : Option Addr) (k : Int) (w : World) (hn : n ≤ 1048576) (h0 : 0 ≤ k) (h1 : k ≤ 1125899906842624) (hm : n = 0 ∨ (a = some ⟨b, 0, none⟩ ∧ MarkedP w b n k)) :
    Calls Tryz.prog 21 #[.slice a n cap, .int .i64 k] w fun e w' => e = .returned (.int .i64 (k + 3 * n)) ∧ w = w' := by
  have HM := hide hm
  clear hm
  go_enter Tryz.func21, Tryz.ntmps21
  go_wp2
  go_loop [1, 5] (fun q i => ∃ (t : Nat), t ≤ n ∧ i = .int .i64 t ∧ q = .int .i64 (k + 3 * t)) (fun _ i => n - (intOf i).toNat)
  case atStart => exact ⟨0, Nat.zero_le _, rfl, by simp⟩
  case round =>
    obtain ⟨t, ht, rfl, rfl⟩ := hrel
    by_cases hlt : t < n
    · obtain ⟨rfl, hM⟩ : a = some ⟨b, 0, none⟩ ∧ MarkedP w b n k := by
        rcases HM.out with h | h
        · omega
        · exact h
      obtain ⟨d0, d1, d2⟩ := hM t hlt
      have HM2 := hide hM
      clear hM
      have d2' : w.cell? ⟨b, t * 3 + 2, none⟩ = some (.int .i64 (k + 3 * t + 1 + 1)) := by rw [d2]; congr 2; omega
      clear d2
      go_wp2
      refine ⟨⟨t + 1, by omega, by go_num, ?_⟩, by simp [intOf]; omega⟩
      congr 1; omega
    · obtain rfl : t = n := by omega
      go_wp2
      go_ret
      exact ⟨rfl, rfl⟩
/-- A list of spots that a call has made from block B on, or none. -/
def NewSpots (B : Nat) (w : World) (z : Option Addr) (ps : List (Int × Int × Int)) : Prop :=
  PartsAt w z ps ∧ (ps.length = 0 ∨ ∃ b m, B ≤ b ∧ b < w.heap.size ∧ z = some ⟨b, 0, none⟩ ∧ ps.length * 3 ≤ m ∧ Row w b 29 m)
theorem newSpots {w : World} {base : Nat} {v : Value} {ps : List (Int × Int × Int)} (h : w.ownsRow base 29 3 v ps.length (partCells ps)) : ∃ z zc, v = .slice z ps.length zc ∧ NewSpots base w z ps := by
  rcases parts_of_owns h with ⟨rfl, rfl⟩ | ⟨b, cap, rfl, hb, hn, hP, hR⟩
  · exact ⟨none, 0, rfl, fun k hk => by simp at hk, .inl rfl⟩
  · exact ⟨_, cap, rfl, hP, .inr ⟨b, cap * 3, hb, by obtain ⟨f, hf⟩ := hR; exact hf.lt, rfl, by omega, hR⟩⟩
theorem NewSpots.later {B : Nat} {w w' : World} {z : Option Addr} {ps : List (Int × Int × Int)} (h : NewSpots B w z ps) (hb : Below w.heap.size w w') : NewSpots B w' z ps := by
  refine ⟨h.1.later hb, ?_⟩
  rcases h.2 with h | ⟨b, m, h1, h2, h3, h4, h5⟩
  · exact .inl h
  · exact .inr ⟨b, m, h1, Nat.lt_of_lt_of_le h2 hb.size, h3, h4, h5.later hb⟩
/-- Only blocks from B to below C have turned; the list lies elsewhere. -/
theorem NewSpots.mid {B0 B C : Nat} {w w' : World} {z : Option Addr} {ps : List (Int × Int × Int)} (h : NewSpots B0 w z ps) (hm : Mid B C w w') (hz : ∀ b, z = some ⟨b, 0, none⟩ → b < w.heap.size → B0 ≤ b → (b < B ∨ C ≤ b)) : NewSpots B0 w' z ps := by
  rcases h.2 with h0 | ⟨b, m, h1, h2, rfl, h4, h5⟩
  · exact ⟨fun k hk => by omega, .inl h0⟩
  · have hb := hz b rfl h2 h1
    refine ⟨fun k hk => ?_, .inr ⟨b, m, h1, Nat.lt_of_lt_of_le h2 hm.size, rfl, h4, hm.row hb h5⟩⟩
    obtain ⟨b', off, e, c0, c1, c2⟩ := h.1 k hk
    obtain ⟨rfl, rfl⟩ : b = b' ∧ 0 = off := by simpa using e
    exact ⟨b, 0, rfl, hm.cell hb c0, hm.cell hb c1, hm.cell hb c2⟩
theorem NewSpots.lt {B : Nat} {w : World} {z : Option Addr} {ps : List (Int × Int × Int)} (h : NewSpots B w z ps) : ∀ b off, z = some ⟨b, off, none⟩ → ps.length = 0 ∨ (B ≤ b ∧ b < w.heap.size) := by
  intro b off hab
  rcases h.2 with h | ⟨b', m, h1, h2, h3, _⟩
  · exact .inl h
  · rw [h3] at hab
    obtain ⟨rfl, rfl⟩ : b' = b ∧ 0 = off := by simpa using hab
    exact .inr ⟨h1, h2⟩
theorem markSpots_own {B : Nat} {w : World} {z : Option Addr} {ps : List (Int × Int × Int)} (zc : Nat) (h : NewSpots B w z ps) (hn : ps.length ≤ 1048576) :
    Calls Tryz.prog 20 #[.slice z ps.length zc, .int .i64 1] w fun e w' => e = .returned (.int .i64 (1 + 3 * ps.length)) ∧ Mid B w.heap.size w w' ∧ PMarked w' z ps.length 1 := by
  rcases h.2 with h0 | ⟨b, m, h1, h2, rfl, h4, h5⟩
  · rw [h0]
    refine (markSpotS_none z zc 1 w).mono ?_
    rintro e w' ⟨rfl, rfl⟩
    exact ⟨by simp, Mid.refl _ _ _, .inl rfl⟩
  · refine (markSpotS_some b ps.length zc m 1 w hn h4 (by omega) (by omega) h5).mono ?_
    rintro e w' ⟨rfl, hm, _, hmk⟩
    exact ⟨rfl, hm.wide h1 (by omega), .inr ⟨b, rfl, hmk⟩⟩
theorem heldSpots_own {w : World} {z : Option Addr} {n : Nat} (zc : Nat) (h : PMarked w z n 1) (hn : n ≤ 1048576) :
    Calls Tryz.prog 21 #[.slice z n zc, .int .i64 1] w fun e w' => e = .returned (.int .i64 (1 + 3 * n)) ∧ w = w' := by
  rcases h with h | ⟨b, h1, h2⟩
  · exact heldSpotS_any 0 n zc z 1 w hn (by omega) (by omega) (.inl h)
  · exact heldSpotS_any b n zc z 1 w hn (by omega) (by omega) (.inr ⟨h1, h2⟩)
end Go.Proofs.YtijdigdcmjdooaaGreat

namespace Go.Proofs.YtijdigdcmjdooaaGreat
open Go.RowKit Go.Maps Go.Joins

theorem lawS : Keyed Tryz.prog 9 := string_keyed Tryz.underlying9
theorem zeroI (w : World) : (zeroValue 3).run Tryz.prog w = .ok (.int .i64 0) w := by kernel_rfl

def seenI (seen : List (List UInt8)) (t : List UInt8) : Int := if seen.contains t then 1 else 0

/-- Block b is a map that holds 1 at each of the seen names, and nothing else. -/
def SI (w : World) (b n : Nat) (seen : List (List UInt8)) : Prop :=
  ∃ D : DataW Unit, w.ownsMap Tryz.prog 9 (plainElem Tryz.prog 3) b n D ∧ ∀ s : List UInt8, D.atKey (.string s) (.lit (.int .i64 0)) = .lit (.int .i64 (seenI seen s))

theorem SI.made (w : World) : SI (w.alloc (.map #[] 0)) w.heap.size 0 [] :=
  ⟨_, World.ownsMap_made w _ _ _, fun _ => rfl⟩

theorem SI.of_block {w w' : World} {b n seen} (h : SI w b n seen) (e : w'.heap[b]? = w.heap[b]?) : SI w' b n seen := by
  obtain ⟨D, ⟨es, clock, hb, h2⟩, h3⟩ := h
  exact ⟨D, ⟨es, clock, e.trans hb, h2⟩, h3⟩

theorem SI.lt {w : World} {b n seen} (h : SI w b n seen) : b < w.heap.size := by
  obtain ⟨D, h, _⟩ := h
  exact h.lt

theorem SI.look {w : World} {b n seen} (h : SI w b n seen) (s : ByteArray) (hs : s.size ≤ maxLen) :
    (Instr.lookup 185 (.map (some b)) (.string s) false).run Tryz.prog w = .ok (.int .i64 (seenI seen s.data.toList)) w := by
  obtain ⟨D, hown, hD⟩ := h
  obtain ⟨c, hrun, hat, _⟩ := hown.lookup_int lawS Tryz.underlying185 Tryz.underlying3 (zeroI _) (WideMaps.keyOf_string_mk Tryz.underlying9 hs)
  rw [hD] at hat
  simp at hat
  rw [hrun, hat]

theorem SI.put {w : World} {b n seen} (h : SI w b n seen) (hn : n < maxLen) (s : ByteArray) (hs : s.size ≤ maxLen) :
    ∃ w', (Instr.mapUpdate 185 (.map (some b)) (.string s) (.int .i64 1)).run Tryz.prog w = .ok () w' ∧ SI w' b (n + 1) (seen ++ [s.data.toList]) ∧ w.grownBy w' (some b) := by
  obtain ⟨D, hown, hD⟩ := h
  obtain ⟨w', hrun, hown', hg⟩ := hown.update lawS Tryz.underlying185 hn (WideMaps.keyOf_string_mk Tryz.underlying9 hs) (plainElem_int Tryz.underlying3 (a := 1) (by decide))
  refine ⟨w', hrun, ⟨_, hown', fun t => ?_⟩, hg⟩
  by_cases e : t = s.data.toList
  · subst e
    rw [atKey_put_same hown.isMap (show WideAt.IsKeyLit (.string _) from trivial)]
    simp [seenI]
  · rw [atKey_put_other (by simpa using e), hD]
    simp [seenI, e]

theorem rowE : (92 : TypeId) < Tryz.prog.types.size := of_decide_eq_true (by kernel_rfl)
theorem wideE : (match Tryz.prog.underlying 92 with | some (.array _ _) | some (.struct _) => true | _ => false) = true := by rw [Tryz.underlying92]
theorem deepE : Tryz.prog.keyTypeAt (Tryz.prog.types.size + 1) 92 = true := by kernel_rfl
theorem cellsE : Tryz.prog.cellsOf 92 = 2 := by kernel_rfl
set_option maxRecDepth 100000 in
theorem klawE : WideMaps.KeyLaw Tryz.prog 92 := deep_law_laid Tryz.laidOut (m := 2) (by omega) rowE (by kernel_rfl) wideE
theorem lawE : Keyed Tryz.prog 92 := Keyed.of_law klawE
theorem formedE {c0 c1 : Value} : (Value.agg #[c0, c1]).formed Tryz.prog 92 = true := by simp [Value.formed, Tryz.underlying92, cellsE]

set_option maxRecDepth 100000 in
theorem keyE (w : World) (x y : Int) (hx : (Lit.int .i64 x).wf = true) (hy : (Lit.int .i64 y).wf = true) : ∃ kl, keyOf Tryz.prog 92 (.agg #[.int .i64 x, .int .i64 y]) = some kl := by
  have h : DataW.Trod (H := Unit) (fun _ => ()) Tryz.prog w 0 (fun _ => true) true 92 (.agg #[.int .i64 x, .int .i64 y]) (.agg [.lit (.int .i64 x), .lit (.int .i64 y)]) ([] ++ []) :=
    shut_agg2 (y0 := (.lit (.int .i64 x), [])) (y1 := (.lit (.int .i64 y), [])) Tryz.underlying92 (by kernel_rfl) cellsE ⟨1, by simp [DataW.trod, Tryz.underlying3, hx]⟩ ⟨1, by simp [DataW.trod, Tryz.underlying3, hy]⟩
  exact ⟨_, (keyOf_asKey deepE wideE formedE h).1⟩

def seatR (v : Value) : Option (DataW Unit × List MemPlace) :=
  match v with
  | .agg xs => match xs.toList with
    | [.int .i64 a, .int .i64 b, .int .i64 c] => some (.agg [.lit (.int .i64 a), .lit (.int .i64 b), .lit (.int .i64 c)], [])
    | _ => none
  | _ => none

def seatD (t : Int × Int × Int) : DataW Unit := .agg [.lit (.int .i64 t.1), .lit (.int .i64 t.2.1), .lit (.int .i64 t.2.2)]
def seatV (t : Int × Int × Int) : Value := .agg #[.int .i64 t.1, .int .i64 t.2.1, .int .i64 t.2.2]

theorem seatR_mk (t : Int × Int × Int) : seatR (seatV t) = some (seatD t, []) := rfl

theorem seatR_inv {v : Value} {t : Int × Int × Int} {ps} (h : seatR v = some (seatD t, ps)) : v = seatV t := by
  unfold seatR at h
  split at h
  · rename_i xs
    split at h
    · rename_i a b c heq
      simp [seatD] at h
      obtain ⟨⟨rfl, h2, h3⟩, _⟩ := h
      subst h2; subst h3
      have : xs = #[.int .i64 t.1, .int .i64 t.2.1, .int .i64 t.2.2] := by
        apply Array.toList_inj.1; rw [heq]
      rw [this]; rfl
    · cases h
  · cases h

theorem zeroS (w : World) : (zeroValue 159).run Tryz.prog w = .ok (seatV (0, 0, 0)) w := by kernel_rfl


/-- Block b is a map from ends to seats that holds g. -/
def SE (w : World) (b n : Nat) (g : Int × Int → Option (Int × Int × Int)) : Prop :=
  ∃ D : DataW Unit, w.ownsMap Tryz.prog 92 seatR b n D ∧ ∀ (e : Int × Int) (kl : Lit), keyOf Tryz.prog 92 (.agg #[.int .i64 e.1, .int .i64 e.2]) = some kl → D.atKey kl (seatD (0, 0, 0)) = seatD ((g e).getD (0, 0, 0)) ∧ Maps.has D kl = (g e).isSome

theorem SE.made (w : World) : SE (w.alloc (.map #[] 0)) w.heap.size 0 (fun _ => none) :=
  ⟨_, World.ownsMap_made w _ _ _, fun _ _ _ => ⟨rfl, rfl⟩⟩

theorem SE.of_block {w w' : World} {b n g} (h : SE w b n g) (e : w'.heap[b]? = w.heap[b]?) : SE w' b n g := by
  obtain ⟨D, ⟨es, clock, hb, h2⟩, h3⟩ := h
  exact ⟨D, ⟨es, clock, e.trans hb, h2⟩, h3⟩

theorem SE.lt {w : World} {b n g} (h : SE w b n g) : b < w.heap.size := by
  obtain ⟨D, h, _⟩ := h
  exact h.lt

theorem SE.look {w : World} {b n g} (h : SE w b n g) (x y : Int) (hw : Wf2 (x, y)) :
    (Instr.lookup 68 (.map (some b)) (.agg #[.int .i64 x, .int .i64 y]) false).run Tryz.prog w = .ok (seatV ((g (x, y)).getD (0, 0, 0))) w := by
  obtain ⟨D, hown, hD⟩ := h
  obtain ⟨kl, hkl⟩ := keyE w x y hw.1 hw.2
  obtain ⟨v, ps, hrun, hv⟩ := hown.lookup lawE Tryz.underlying68 (zeroS w) (seatR_mk _) hkl
  rw [(hD (x, y) kl hkl).1] at hv
  rw [hrun, seatR_inv hv]

theorem SE.look_ok {w : World} {b n g} (h : SE w b n g) (x y : Int) (hw : Wf2 (x, y)) :
    (Instr.lookup 68 (.map (some b)) (.agg #[.int .i64 x, .int .i64 y]) true).run Tryz.prog w = .ok (.tuple #[seatV ((g (x, y)).getD (0, 0, 0)), .bool (g (x, y)).isSome]) w := by
  obtain ⟨D, hown, hD⟩ := h
  obtain ⟨kl, hkl⟩ := keyE w x y hw.1 hw.2
  obtain ⟨v, ps, hrun, hv⟩ := hown.look_ok lawE Tryz.underlying68 (zeroS w) (seatR_mk _) hkl
  rw [(hD (x, y) kl hkl).1] at hv
  rw [hrun, seatR_inv hv, (hD (x, y) kl hkl).2]

theorem SE.put {w : World} {b n g} (h : SE w b n g) (hn : n < maxLen) (x y : Int) (hw : Wf2 (x, y)) (t : Int × Int × Int) :
    ∃ w', (Instr.mapUpdate 68 (.map (some b)) (.agg #[.int .i64 x, .int .i64 y]) (seatV t)).run Tryz.prog w = .ok () w' ∧ SE w' b (n + 1) (fun e => if e = (x, y) then some t else g e) ∧ w.grownBy w' (some b) := by
  obtain ⟨D, hown, hD⟩ := h
  obtain ⟨kl, hkl⟩ := keyE w x y hw.1 hw.2
  obtain ⟨w', hrun, hown', hg⟩ := hown.update lawE Tryz.underlying68 hn hkl (seatR_mk t)
  refine ⟨w', hrun, ⟨_, hown', fun e kl' hkl' => ?_⟩, hg⟩
  by_cases he : e = (x, y)
  · subst he
    obtain rfl : kl = kl' := by rw [hkl] at hkl'; exact Option.some.inj hkl'
    rw [atKey_put_same hown.isMap (lawE.key hkl), has_put_same hown.isMap (lawE.key hkl)]
    simp
  · have hne : kl' ≠ kl := by
      intro hk
      subst hk
      have := lawE.inj hkl' hkl
      simp at this
      exact he (Prod.ext this.1 this.2)
    rw [atKey_put_other hne, has_put_other hne]
    simp only [if_neg he]
    exact hD e kl' hkl'
end Go.Proofs.YtijdigdcmjdooaaGreat

/- Ways, which of two is less, and what is best: plain. Own work. -/
namespace Go.Proofs.YtijdigdcmjdooaaGreat

/-- A way: how far, by which steps. -/
structure Wy where
  far : Int
  ss : List (Int × Int)

/-- Where steps are less, by piece, then by way, where they first part. -/
def lessS : List (Int × Int) → List (Int × Int) → Bool
  | x :: xs, y :: ys => if x.1 = y.1 then (if x.2 = y.2 then lessS xs ys else decide (x.2 < y.2)) else decide (x.1 < y.1)
  | _, _ => false
def lessW (a b : Wy) : Bool := if a.far = b.far then (if a.ss.length = b.ss.length then lessS a.ss b.ss else decide (a.ss.length < b.ss.length)) else decide (a.far < b.far)

theorem lessS_irr (a : List (Int × Int)) : lessS a a = false := by
  induction a with
  | nil => rfl
  | cons x a ih => simp [lessS, ih]
theorem lessS_tri : ∀ (a b : List (Int × Int)), a.length = b.length → lessS a b = false → lessS b a = false → a = b
  | [], [], _, _, _ => rfl
  | [], _ :: _, h, _, _ => by simp at h
  | _ :: _, [], h, _, _ => by simp at h
  | x :: a, y :: b, h, h1, h2 => by
    unfold lessS at h1 h2
    by_cases e1 : x.1 = y.1
    · rw [if_pos e1] at h1
      rw [if_pos e1.symm] at h2
      by_cases e2 : x.2 = y.2
      · rw [if_pos e2] at h1
        rw [if_pos e2.symm] at h2
        rw [lessS_tri a b (by simpa using h) h1 h2, Prod.ext e1 e2]
      · rw [if_neg e2] at h1
        rw [if_neg (fun h => e2 h.symm)] at h2
        simp only [decide_eq_false_iff_not] at h1 h2
        omega
    · rw [if_neg e1] at h1
      rw [if_neg (fun h => e1 h.symm)] at h2
      simp only [decide_eq_false_iff_not] at h1 h2
      omega
theorem lessS_trans : ∀ (a b c : List (Int × Int)), lessS a b = true → lessS b c = true → lessS a c = true
  | [], _, _, h, _ => by simp [lessS] at h
  | _ :: _, [], _, h, _ => by simp [lessS] at h
  | _ :: _, _ :: _, [], _, h => by simp [lessS] at h
  | x :: a, y :: b, z :: c, h1, h2 => by
    unfold lessS at h1 h2 ⊢
    by_cases e1 : x.1 = y.1
    · rw [if_pos e1] at h1
      by_cases e2 : y.1 = z.1
      · rw [if_pos e2] at h2
        rw [if_pos (e1.trans e2)]
        by_cases f1 : x.2 = y.2
        · rw [if_pos f1] at h1
          by_cases f2 : y.2 = z.2
          · rw [if_pos f2] at h2
            rw [if_pos (f1.trans f2)]
            exact lessS_trans a b c h1 h2
          · rw [if_neg f2] at h2
            rw [if_neg (fun h => f2 (by omega))]
            simp only [decide_eq_true_eq] at h2 ⊢
            omega
        · rw [if_neg f1] at h1
          simp only [decide_eq_true_eq] at h1
          by_cases f2 : y.2 = z.2
          · rw [if_neg (by omega)]
            simp only [decide_eq_true_eq]
            omega
          · rw [if_neg f2] at h2
            simp only [decide_eq_true_eq] at h2
            rw [if_neg (by omega)]
            simp only [decide_eq_true_eq]
            omega
      · rw [if_neg e2] at h2
        rw [if_neg (by omega)]
        simp only [decide_eq_true_eq] at h2 ⊢
        omega
    · rw [if_neg e1] at h1
      simp only [decide_eq_true_eq] at h1
      by_cases e2 : y.1 = z.1
      · rw [if_neg (by omega)]
        simp only [decide_eq_true_eq]
        omega
      · rw [if_neg e2] at h2
        simp only [decide_eq_true_eq] at h2
        rw [if_neg (by omega)]
        simp only [decide_eq_true_eq]
        omega
theorem lessS_snoc : ∀ (a b : List (Int × Int)) (z : Int × Int), a.length = b.length → lessS (a ++ [z]) (b ++ [z]) = lessS a b
  | [], [], z, _ => by simp [lessS]
  | [], _ :: _, _, h => by simp at h
  | _ :: _, [], _, h => by simp at h
  | x :: a, y :: b, z, h => by
    show lessS (x :: (a ++ [z])) (y :: (b ++ [z])) = lessS (x :: a) (y :: b)
    unfold lessS
    rw [lessS_snoc a b z (by simpa using h)]

theorem lessW_irr (a : Wy) : lessW a a = false := by simp [lessW, lessS_irr]
theorem lessW_trans {a b c : Wy} (h1 : lessW a b = true) (h2 : lessW b c = true) : lessW a c = true := by
  unfold lessW at h1 h2 ⊢
  by_cases e1 : a.far = b.far
  · rw [if_pos e1] at h1
    by_cases e2 : b.far = c.far
    · rw [if_pos e2] at h2
      rw [if_pos (e1.trans e2)]
      by_cases f1 : a.ss.length = b.ss.length
      · rw [if_pos f1] at h1
        by_cases f2 : b.ss.length = c.ss.length
        · rw [if_pos f2] at h2
          rw [if_pos (f1.trans f2)]
          exact lessS_trans _ _ _ h1 h2
        · rw [if_neg f2] at h2
          simp only [decide_eq_true_eq] at h2
          rw [if_neg (by omega)]
          simp only [decide_eq_true_eq]
          omega
      · rw [if_neg f1] at h1
        simp only [decide_eq_true_eq] at h1
        by_cases f2 : b.ss.length = c.ss.length
        · rw [if_neg (by omega)]
          simp only [decide_eq_true_eq]
          omega
        · rw [if_neg f2] at h2
          simp only [decide_eq_true_eq] at h2
          rw [if_neg (by omega)]
          simp only [decide_eq_true_eq]
          omega
    · rw [if_neg e2] at h2
      simp only [decide_eq_true_eq] at h2
      rw [if_neg (by omega)]
      simp only [decide_eq_true_eq]
      omega
  · rw [if_neg e1] at h1
    simp only [decide_eq_true_eq] at h1
    by_cases e2 : b.far = c.far
    · rw [if_neg (by omega)]
      simp only [decide_eq_true_eq]
      omega
    · rw [if_neg e2] at h2
      simp only [decide_eq_true_eq] at h2
      rw [if_neg (by omega)]
      simp only [decide_eq_true_eq]
      omega
theorem lessW_tri {a b : Wy} (h1 : lessW a b = false) (h2 : lessW b a = false) : a = b := by
  unfold lessW at h1 h2
  by_cases e1 : a.far = b.far
  · rw [if_pos e1] at h1
    rw [if_pos e1.symm] at h2
    by_cases f1 : a.ss.length = b.ss.length
    · rw [if_pos f1] at h1
      rw [if_pos f1.symm] at h2
      have := lessS_tri _ _ f1 h1 h2
      cases a; cases b
      simp only at e1 this
      rw [e1, this]
    · rw [if_neg f1] at h1
      rw [if_neg (fun h => f1 h.symm)] at h2
      simp only [decide_eq_false_iff_not] at h1 h2
      omega
  · rw [if_neg e1] at h1
    rw [if_neg (fun h => e1 h.symm)] at h2
    simp only [decide_eq_false_iff_not] at h1 h2
    omega
/-- a is not behind b. -/
def leW (a b : Wy) : Prop := lessW b a = false
theorem leW_refl (a : Wy) : leW a a := lessW_irr a
theorem leW_of_less {a b : Wy} (h : lessW a b = true) : leW a b := by
  unfold leW
  cases h' : lessW b a
  · rfl
  · have := lessW_trans h h'
    rw [lessW_irr] at this
    exact this.symm
theorem leW_total (a b : Wy) : leW a b ∨ lessW b a = true := by
  unfold leW
  cases lessW b a
  · exact .inl rfl
  · exact .inr rfl
theorem leW_trans {a b c : Wy} (h1 : leW a b) (h2 : leW b c) : leW a c := by
  unfold leW at *
  cases h : lessW c a
  · rfl
  · rcases leW_total b a with h3 | h3
    · have e := lessW_tri (a := a) (b := b) h3 h1
      subst e
      rw [h2] at h
      exact h.symm
    · have := lessW_trans h h3
      rw [h2] at this
      exact this.symm
theorem leW_antisymm {a b : Wy} (h1 : leW a b) (h2 : leW b a) : a = b := lessW_tri h2 h1
theorem less_le {a b c : Wy} (h1 : lessW a b = true) (h2 : leW b c) : lessW a c = true := by
  cases h : lessW a c
  · have : leW c a := h
    have := leW_trans h2 this
    unfold leW at this
    rw [h1] at this
    exact this.symm
  · rfl
theorem le_less {a b c : Wy} (h1 : leW a b) (h2 : lessW b c = true) : lessW a c = true := by
  cases h : lessW a c
  · have : leW c a := h
    have := leW_trans this h1
    unfold leW at this
    rw [h2] at this
    exact this.symm
  · rfl
theorem le_snoc {a b : Wy} (c : Int) (z : Int × Int) (h : leW a b) : leW ⟨a.far + c, a.ss ++ [z]⟩ ⟨b.far + c, b.ss ++ [z]⟩ := by
  unfold leW lessW at *
  simp only [List.length_append, List.length_singleton]
  by_cases e1 : b.far = a.far
  · rw [if_pos e1] at h
    rw [if_pos (by omega)]
    by_cases f1 : b.ss.length = a.ss.length
    · rw [if_pos f1] at h
      rw [if_pos (by omega), lessS_snoc _ _ _ f1]
      exact h
    · rw [if_neg f1] at h
      rw [if_neg (by omega)]
      simp only [decide_eq_false_iff_not] at h ⊢
      omega
  · rw [if_neg e1] at h
    rw [if_neg (by omega)]
    simp only [decide_eq_false_iff_not] at h ⊢
    omega
theorem less_snoc (a : Wy) {c : Int} (hc : 0 ≤ c) (z : Int × Int) : lessW a ⟨a.far + c, a.ss ++ [z]⟩ = true := by
  unfold lessW
  simp only [List.length_append, List.length_singleton]
  by_cases e : a.far = a.far + c
  · rw [if_pos e, if_neg (by omega)]
    simp only [decide_eq_true_eq]
    omega
  · rw [if_neg e]
    simp only [decide_eq_true_eq]
    omega

/-- A track as what lies behind its ends: over the joint at an end, the ends behind it; how long pieces are. -/
structure Gr where
  n : Nat
  nx : Int × Int → List (Int × Int)
  len : Int → Int
  ok : ∀ h e, e ∈ nx h → endOk n e = true
  pos : ∀ p : Int, 0 ≤ p → p < n → 1 ≤ len p ∧ len p ≤ 10000000

def stepOf (e : Int × Int) : Int × Int := (e.1, if e.2 = 0 then 1 else -1)

section
variable (G : Gr) (s : Int × Int) (room : Int)

def costW (y : Wy) (t : Int × Int) : Int := if y.ss.length = 1 then room else G.len t.1
def extW (y : Wy) (t e : Int × Int) : Wy := ⟨y.far + costW G room y t, y.ss ++ [stepOf e]⟩

/-- A way from a spot: over joints, or just its own piece. -/
inductive WayR : Wy → Prop
  | base : WayR ⟨0, [s]⟩
  | more {y : Wy} {t e : Int × Int} (h : WayR y) (ht : y.ss.getLast? = some t) (he : e ∈ G.nx (headP t.1 t.2)) : WayR (extW G room y t e)

/-- A way over a joint or more to the step t. -/
structure ToW (t : Int × Int) (y : Wy) : Prop where
  way : WayR G s room y
  last : y.ss.getLast? = some t
  two : 2 ≤ y.ss.length
def BestW (P : Wy → Prop) (b : Wy) : Prop := P b ∧ ∀ y, P y → leW b y
theorem BestW.one {P : Wy → Prop} {b b' : Wy} (h : BestW P b) (h' : BestW P b') : b = b' := leW_antisymm (h.2 _ h'.1) (h'.2 _ h.1)
end

section
variable {G : Gr} {s : Int × Int} {room : Int}

theorem WayR.pos {y : Wy} (h : WayR G s room y) : 1 ≤ y.ss.length := by
  induction h with
  | base => simp
  | more h ht he ih => simp [extW]
theorem stepOf_ok {n : Nat} {e : Int × Int} (h : endOk n e = true) : (0 ≤ (stepOf e).1 ∧ (stepOf e).1 < n) ∧ ((stepOf e).2 = 1 ∨ (stepOf e).2 = -1) := by
  simp only [endOk, inR, Bool.and_eq_true, decide_eq_true_eq] at h
  unfold stepOf
  refine ⟨⟨by show 0 ≤ e.1; omega, by show e.1 < n; omega⟩, ?_⟩
  dsimp only
  split <;> omega
theorem stepOf_inj {n : Nat} {e f : Int × Int} (he : endOk n e = true) (hf : endOk n f = true) (h : stepOf e = stepOf f) : e = f := by
  simp only [endOk, inR, Bool.and_eq_true, decide_eq_true_eq] at he hf
  unfold stepOf at h
  obtain ⟨h1, h2⟩ := Prod.mk.inj h
  refine Prod.ext h1 ?_
  split at h2 <;> split at h2 <;> omega
/-- The last step of a way over joints is one of a piece. -/
theorem WayR.last_ok {y : Wy} (h : WayR G s room y) (h2 : 2 ≤ y.ss.length) : ∃ e, endOk G.n e = true ∧ y.ss.getLast? = some (stepOf e) := by
  cases h with
  | base => simp at h2
  | more h ht he => exact ⟨_, G.ok _ _ he, by simp [extW]⟩
theorem cost_nonneg {y : Wy} (hr : 0 ≤ room) (h : WayR G s room y) {t : Int × Int} (ht : y.ss.getLast? = some t) : 0 ≤ costW G room y t ∧ (2 ≤ y.ss.length → 1 ≤ costW G room y t ∧ costW G room y t ≤ 10000000) := by
  unfold costW
  split
  · exact ⟨hr, fun _ => by omega⟩
  · have h1 := h.pos
    obtain ⟨e, he, hl⟩ := h.last_ok (by omega)
    rw [hl] at ht
    cases ht
    obtain ⟨⟨h3, h4⟩, _⟩ := stepOf_ok he
    have := G.pos _ h3 h4
    exact ⟨by omega, fun _ => by omega⟩
theorem ext_less (hr : 0 ≤ room) {y : Wy} (h : WayR G s room y) {t : Int × Int} (ht : y.ss.getLast? = some t) (e : Int × Int) : lessW y (extW G room y t e) = true :=
  less_snoc y (cost_nonneg hr h ht).1 _
/-- How far a way is at most. -/
theorem WayR.far_le {y : Wy} (hr : 0 ≤ room ∧ room ≤ 10000000) (h : WayR G s room y) : 0 ≤ y.far ∧ y.far ≤ ((y.ss.length : Int) - 1) * 10000000 := by
  induction h with
  | base => simp
  | @more y t e h ht he ih =>
    have h1 := cost_nonneg hr.1 h ht
    have h2 := h.pos
    have h3 : costW G room y t ≤ 10000000 := by
      by_cases e : y.ss.length = 1
      · unfold costW; rw [if_pos e]; exact hr.2
      · exact (h1.2 (by omega)).2
    simp only [extW, List.length_append, List.length_singleton]
    omega
/-- To go on from a lesser way is to be less. -/
theorem ext_le {a b : Wy} (h : leW a b) (hl : 2 ≤ a.ss.length ∧ 2 ≤ b.ss.length) (t e : Int × Int) : leW (extW G room a t e) (extW G room b t e) := by
  unfold extW costW
  rw [if_neg (by omega), if_neg (by omega)]
  exact le_snoc _ _ h
/-- A way over two joints or more is a way that was gone on with. -/
theorem ToW.cases {t : Int × Int} {y : Wy} (h : ToW G s room t y) : ∃ e, endOk G.n e = true ∧ t = stepOf e ∧ ((e ∈ G.nx (headP s.1 s.2) ∧ y = extW G room ⟨0, [s]⟩ s e) ∨ ∃ u x, ToW G s room u x ∧ e ∈ G.nx (headP u.1 u.2) ∧ y = extW G room x u e) := by
  obtain ⟨hw, hl, h2⟩ := h
  cases hw with
  | base => simp at h2
  | @more x u e hx hu he =>
    have : t = stepOf e := by
      have : (extW G room x u e).ss.getLast? = some (stepOf e) := by simp [extW]
      rw [this] at hl
      cases hl
      rfl
    refine ⟨e, G.ok _ _ he, this, ?_⟩
    by_cases h3 : 2 ≤ x.ss.length
    · exact .inr ⟨u, x, ⟨hx, hu, h3⟩, he, rfl⟩
    · cases hx with
      | base =>
        have : u = s := by simpa using hu.symm
        subst this
        exact .inl ⟨he, rfl⟩
      | more h' _ _ =>
        have := h'.pos
        have e : ∀ (y : Wy) (t e : Int × Int), (extW G room y t e).ss.length = y.ss.length + 1 := fun y t e => by simp [extW]
        rw [e] at h3
        omega
theorem ToW.step {u : Int × Int} {x : Wy} (h : ToW G s room u x) {e : Int × Int} (he : e ∈ G.nx (headP u.1 u.2)) : ToW G s room (stepOf e) (extW G room x u e) :=
  ⟨.more h.way h.last he, by simp [extW], by have := h.two; simp [extW]; omega⟩
theorem ToW.first {e : Int × Int} (he : e ∈ G.nx (headP s.1 s.2)) : ToW G s room (stepOf e) (extW G room ⟨0, [s]⟩ s e) :=
  ⟨.more .base rfl he, by simp [extW], by simp [extW]⟩

/-- Dijkstra: what is known is best, what goes on from it is known or open. -/
structure DijI (known : Int × Int → Option Wy) (opn : List Wy) : Prop where
  best : ∀ t b, known t = some b → BestW (ToW G s room t) b
  way : ∀ y ∈ opn, ∃ t, ToW G s room t y
  start : ∀ e ∈ G.nx (headP s.1 s.2), known (stepOf e) ≠ none ∨ extW G room ⟨0, [s]⟩ s e ∈ opn
  goes : ∀ u b, known u = some b → ∀ e ∈ G.nx (headP u.1 u.2), known (stepOf e) ≠ none ∨ extW G room b u e ∈ opn

/-- Each way to a step that is not known is behind one that is open. -/
theorem DijI.ahead (hr : 0 ≤ room) {known : Int × Int → Option Wy} {opn : List Wy} (h : DijI (G := G) (s := s) (room := room) known opn) {y : Wy} (hw : WayR G s room y) : ∀ {t}, y.ss.getLast? = some t → 2 ≤ y.ss.length → known t = none → ∃ x ∈ opn, leW x y := by
  induction hw with
  | base => intro t _ h2 _; simp at h2
  | @more y u e hy hu he ih =>
    intro t hl _ hk
    have ht : t = stepOf e := by
      have : (extW G room y u e).ss.getLast? = some (stepOf e) := by simp [extW]
      rw [this] at hl
      cases hl
      rfl
    subst ht
    by_cases h2 : 2 ≤ y.ss.length
    · cases hku : known u with
      | none =>
        obtain ⟨x, hx, hle⟩ := ih hu h2 hku
        exact ⟨x, hx, leW_trans hle (leW_of_less (ext_less hr hy hu e))⟩
      | some b =>
        have hb := h.best u b hku
        rcases h.goes u b hku e he with h3 | h3
        · exact absurd hk h3
        · exact ⟨_, h3, ext_le (hb.2 y ⟨hy, hu, h2⟩) ⟨hb.1.two, h2⟩ u e⟩
    · cases hy with
      | base =>
        have : u = s := by simpa using hu.symm
        subst this
        rcases h.start e he with h3 | h3
        · exact absurd hk h3
        · exact ⟨_, h3, leW_refl _⟩
      | more h' _ _ =>
        have := h'.pos
        have e : ∀ (y : Wy) (t e : Int × Int), (extW G room y t e).ss.length = y.ss.length + 1 := fun y t e => by simp [extW]
        rw [e] at h2
        omega
/-- What is open and first is best, where its step is not known. -/
theorem DijI.first (hr : 0 ≤ room) {known : Int × Int → Option Wy} {opn : List Wy} (h : DijI (G := G) (s := s) (room := room) known opn) {x : Wy} (hx : x ∈ opn) (hmin : ∀ y ∈ opn, leW x y) {t : Int × Int} (ht : x.ss.getLast? = some t) (hk : known t = none) : BestW (ToW G s room t) x := by
  obtain ⟨t', h1⟩ := h.way x hx
  have : t' = t := by have := h1.last; rw [ht] at this; cases this; rfl
  subst this
  refine ⟨h1, fun y hy => ?_⟩
  obtain ⟨z, hz, hle⟩ := h.ahead hr hy.way hy.last hy.two hk
  exact leW_trans (hmin z hz) hle
/-- When nothing is open, each step to which there is a way is known. -/
theorem DijI.all (hr : 0 ≤ room) {known : Int × Int → Option Wy} (h : DijI (G := G) (s := s) (room := room) known []) {t : Int × Int} {y : Wy} (hy : ToW G s room t y) : known t ≠ none := by
  intro hk
  obtain ⟨x, hx, _⟩ := h.ahead hr hy.way hy.last hy.two hk
  simp at hx
end
end Go.Proofs.YtijdigdcmjdooaaGreat

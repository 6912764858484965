import Derived.Test.YtokhbnlpifmjkaaDoorSz
import Derived.Maps.OwnSet
import Derived.Maps.Views
import Derived.DeepKeys4
import Derived.Lib.SmallJoins
namespace Go.Proofs.YtokhbnlpifmjkaaDoor
open Go.RowKit Go.Maps Go.Joins

theorem lawS : Keyed Tryd.prog 9 := string_keyed Tryd.underlying9
theorem zeroI (w : World) : (zeroValue 3).run Tryd.prog w = .ok (.int .i64 0) w := by kernel_rfl

def seenI (seen : List (List UInt8)) (t : List UInt8) : Int := if seen.contains t then 1 else 0

/-- Block b is a map that holds 1 at each of the seen names, and nothing else. -/
def SI (w : World) (b n : Nat) (seen : List (List UInt8)) : Prop :=
  ∃ D : DataW Unit, w.ownsMap Tryd.prog 9 (plainElem Tryd.prog 3) b n D ∧ ∀ s : List UInt8, D.atKey (.string s) (.lit (.int .i64 0)) = .lit (.int .i64 (seenI seen s))

theorem SI.made (w : World) : SI (w.alloc (.map #[] 0)) w.heap.size 0 [] :=
  ⟨_, World.ownsMap_made w _ _ _, fun _ => rfl⟩

theorem SI.of_block {w w' : World} {b n seen} (h : SI w b n seen) (e : w'.heap[b]? = w.heap[b]?) : SI w' b n seen := by
  obtain ⟨D, ⟨es, clock, hb, h2⟩, h3⟩ := h
  exact ⟨D, ⟨es, clock, e.trans hb, h2⟩, h3⟩

theorem SI.lt {w : World} {b n seen} (h : SI w b n seen) : b < w.heap.size := by
  obtain ⟨D, h, _⟩ := h
  exact h.lt

theorem SI.look {w : World} {b n seen} (h : SI w b n seen) (s : ByteArray) (hs : s.size ≤ maxLen) :
    (Instr.lookup 92 (.map (some b)) (.string s) false).run Tryd.prog w = .ok (.int .i64 (seenI seen s.data.toList)) w := by
  obtain ⟨D, hown, hD⟩ := h
  obtain ⟨c, hrun, hat, _⟩ := hown.lookup_int lawS Tryd.underlying92 Tryd.underlying3 (zeroI _) (WideMaps.keyOf_string_mk Tryd.underlying9 hs)
  rw [hD] at hat
  simp at hat
  rw [hrun, hat]

theorem SI.put {w : World} {b n seen} (h : SI w b n seen) (hn : n < maxLen) (s : ByteArray) (hs : s.size ≤ maxLen) :
    ∃ w', (Instr.mapUpdate 92 (.map (some b)) (.string s) (.int .i64 1)).run Tryd.prog w = .ok () w' ∧ SI w' b (n + 1) (seen ++ [s.data.toList]) ∧ w.grownBy w' (some b) := by
  obtain ⟨D, hown, hD⟩ := h
  obtain ⟨w', hrun, hown', hg⟩ := hown.update lawS Tryd.underlying92 hn (WideMaps.keyOf_string_mk Tryd.underlying9 hs) (plainElem_int Tryd.underlying3 (a := 1) (by decide))
  refine ⟨w', hrun, ⟨_, hown', fun t => ?_⟩, hg⟩
  by_cases e : t = s.data.toList
  · subst e
    rw [atKey_put_same hown.isMap (show WideAt.IsKeyLit (.string _) from trivial)]
    simp [seenI]
  · rw [atKey_put_other (by simpa using e), hD]
    simp [seenI, e]

theorem rowE : (46 : TypeId) < Tryd.prog.types.size := of_decide_eq_true (by kernel_rfl)
theorem wideE : (match Tryd.prog.underlying 46 with | some (.array _ _) | some (.struct _) => true | _ => false) = true := by rw [Tryd.underlying46]
theorem deepE : Tryd.prog.keyTypeAt (Tryd.prog.types.size + 1) 46 = true := by kernel_rfl
theorem cellsE : Tryd.prog.cellsOf 46 = 2 := by kernel_rfl
set_option maxRecDepth 100000 in
theorem klawE : WideMaps.KeyLaw Tryd.prog 46 := deep_law_laid Tryd.laidOut (m := 2) (by omega) rowE (by kernel_rfl) wideE
theorem lawE : Keyed Tryd.prog 46 := Keyed.of_law klawE
theorem formedE {c0 c1 : Value} : (Value.agg #[c0, c1]).formed Tryd.prog 46 = true := by simp [Value.formed, Tryd.underlying46, cellsE]

set_option maxRecDepth 100000 in
theorem keyE (w : World) (x y : Int) (hx : (Lit.int .i64 x).wf = true) (hy : (Lit.int .i64 y).wf = true) : ∃ kl, keyOf Tryd.prog 46 (.agg #[.int .i64 x, .int .i64 y]) = some kl := by
  have h : DataW.Trod (H := Unit) (fun _ => ()) Tryd.prog w 0 (fun _ => true) true 46 (.agg #[.int .i64 x, .int .i64 y]) (.agg [.lit (.int .i64 x), .lit (.int .i64 y)]) ([] ++ []) :=
    shut_agg2 (y0 := (.lit (.int .i64 x), [])) (y1 := (.lit (.int .i64 y), [])) Tryd.underlying46 (by kernel_rfl) cellsE ⟨1, by simp [DataW.trod, Tryd.underlying3, hx]⟩ ⟨1, by simp [DataW.trod, Tryd.underlying3, hy]⟩
  exact ⟨_, (keyOf_asKey deepE wideE formedE h).1⟩

def seatR (v : Value) : Option (DataW Unit × List MemPlace) :=
  match v with
  | .agg xs => match xs.toList with
    | [.int .i64 a, .int .i64 b, .int .i64 c] => some (.agg [.lit (.int .i64 a), .lit (.int .i64 b), .lit (.int .i64 c)], [])
    | _ => none
  | _ => none

def seatD (t : Int × Int × Int) : DataW Unit := .agg [.lit (.int .i64 t.1), .lit (.int .i64 t.2.1), .lit (.int .i64 t.2.2)]
def seatV (t : Int × Int × Int) : Value := .agg #[.int .i64 t.1, .int .i64 t.2.1, .int .i64 t.2.2]

theorem seatR_mk (t : Int × Int × Int) : seatR (seatV t) = some (seatD t, []) := rfl

theorem seatR_inv {v : Value} {t : Int × Int × Int} {ps} (h : seatR v = some (seatD t, ps)) : v = seatV t := by
  unfold seatR at h
  split at h
  · rename_i xs
    split at h
    · rename_i a b c heq
      simp [seatD] at h
      obtain ⟨⟨rfl, h2, h3⟩, _⟩ := h
      subst h2; subst h3
      have : xs = #[.int .i64 t.1, .int .i64 t.2.1, .int .i64 t.2.2] := by
        apply Array.toList_inj.1; rw [heq]
      rw [this]; rfl
    · cases h
  · cases h

theorem zeroS (w : World) : (zeroValue 99).run Tryd.prog w = .ok (seatV (0, 0, 0)) w := by kernel_rfl


/-- Block b is a map from ends to seats that holds g. -/
def SE (w : World) (b n : Nat) (g : Int × Int → Option (Int × Int × Int)) : Prop :=
  ∃ D : DataW Unit, w.ownsMap Tryd.prog 46 seatR b n D ∧ ∀ (e : Int × Int) (kl : Lit), keyOf Tryd.prog 46 (.agg #[.int .i64 e.1, .int .i64 e.2]) = some kl → D.atKey kl (seatD (0, 0, 0)) = seatD ((g e).getD (0, 0, 0)) ∧ Maps.has D kl = (g e).isSome

theorem SE.made (w : World) : SE (w.alloc (.map #[] 0)) w.heap.size 0 (fun _ => none) :=
  ⟨_, World.ownsMap_made w _ _ _, fun _ _ _ => ⟨rfl, rfl⟩⟩

theorem SE.of_block {w w' : World} {b n g} (h : SE w b n g) (e : w'.heap[b]? = w.heap[b]?) : SE w' b n g := by
  obtain ⟨D, ⟨es, clock, hb, h2⟩, h3⟩ := h
  exact ⟨D, ⟨es, clock, e.trans hb, h2⟩, h3⟩

theorem SE.lt {w : World} {b n g} (h : SE w b n g) : b < w.heap.size := by
  obtain ⟨D, h, _⟩ := h
  exact h.lt

theorem SE.look {w : World} {b n g} (h : SE w b n g) (x y : Int) (hw : Wf2 (x, y)) :
    (Instr.lookup 96 (.map (some b)) (.agg #[.int .i64 x, .int .i64 y]) false).run Tryd.prog w = .ok (seatV ((g (x, y)).getD (0, 0, 0))) w := by
  obtain ⟨D, hown, hD⟩ := h
  obtain ⟨kl, hkl⟩ := keyE w x y hw.1 hw.2
  obtain ⟨v, ps, hrun, hv⟩ := hown.lookup lawE Tryd.underlying96 (zeroS w) (seatR_mk _) hkl
  rw [(hD (x, y) kl hkl).1] at hv
  rw [hrun, seatR_inv hv]

theorem SE.look_ok {w : World} {b n g} (h : SE w b n g) (x y : Int) (hw : Wf2 (x, y)) :
    (Instr.lookup 96 (.map (some b)) (.agg #[.int .i64 x, .int .i64 y]) true).run Tryd.prog w = .ok (.tuple #[seatV ((g (x, y)).getD (0, 0, 0)), .bool (g (x, y)).isSome]) w := by
  obtain ⟨D, hown, hD⟩ := h
  obtain ⟨kl, hkl⟩ := keyE w x y hw.1 hw.2
  obtain ⟨v, ps, hrun, hv⟩ := hown.look_ok lawE Tryd.underlying96 (zeroS w) (seatR_mk _) hkl
  rw [(hD (x, y) kl hkl).1] at hv
  rw [hrun, seatR_inv hv, (hD (x, y) kl hkl).2]

theorem SE.put {w : World} {b n g} (h : SE w b n g) (hn : n < maxLen) (x y : Int) (hw : Wf2 (x, y)) (t : Int × Int × Int) :
    ∃ w', (Instr.mapUpdate 96 (.map (some b)) (.agg #[.int .i64 x, .int .i64 y]) (seatV t)).run Tryd.prog w = .ok () w' ∧ SE w' b (n + 1) (fun e => if e = (x, y) then some t else g e) ∧ w.grownBy w' (some b) := by
  obtain ⟨D, hown, hD⟩ := h
  obtain ⟨kl, hkl⟩ := keyE w x y hw.1 hw.2
  obtain ⟨w', hrun, hown', hg⟩ := hown.update lawE Tryd.underlying96 hn hkl (seatR_mk t)
  refine ⟨w', hrun, ⟨_, hown', fun e kl' hkl' => ?_⟩, hg⟩
  by_cases he : e = (x, y)
  · subst he
    obtain rfl : kl = kl' := by rw [hkl] at hkl'; exact Option.some.inj hkl'
    rw [atKey_put_same hown.isMap (lawE.key hkl), has_put_same hown.isMap (lawE.key hkl)]
    simp
  · have hne : kl' ≠ kl := by
      intro hk
      subst hk
      have := lawE.inj hkl' hkl
      simp at this
      exact he (Prod.ext this.1 this.2)
    rw [atKey_put_other hne, has_put_other hne]
    simp only [if_neg he]
    exact hD e kl' hkl'
end Go.Proofs.YtokhbnlpifmjkaaDoor

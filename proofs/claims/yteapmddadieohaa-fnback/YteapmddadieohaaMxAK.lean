import Derived.Test.YteapmddadieohaaMxAA
import Derived.Maps.OwnSet
import Derived.Maps.Views
import Derived.DeepKeys4
import Derived.Lib.SmallJoins
import Derived.Test.YteapmddadieohaaMxAJ
import Derived.Test.YteapmddadieohaaTo
namespace Go.Proofs.Yteapmddadieohaa
open Go.RowKit Go.Maps Go.Joins

theorem lawS : Keyed Try.prog 9 := string_keyed Try.underlying9
theorem zeroI (w : World) : (zeroValue 3).run Try.prog w = .ok (.int .i64 0) w := by kernel_rfl

def seenI (seen : List (List UInt8)) (t : List UInt8) : Int := if seen.contains t then 1 else 0

/-- Block b is a map that holds 1 at each of the seen names, and nothing else. -/
def SI (w : World) (b n : Nat) (seen : List (List UInt8)) : Prop :=
  ∃ D : DataW Unit, w.ownsMap Try.prog 9 (plainElem Try.prog 3) b n D ∧ ∀ s : List UInt8, D.atKey (.string s) (.lit (.int .i64 0)) = .lit (.int .i64 (seenI seen s))

theorem SI.made (w : World) : SI (w.alloc (.map #[] 0)) w.heap.size 0 [] :=
  ⟨_, World.ownsMap_made w _ _ _, fun _ => rfl⟩

theorem SI.of_block {w w' : World} {b n seen} (h : SI w b n seen) (e : w'.heap[b]? = w.heap[b]?) : SI w' b n seen := by
  obtain ⟨D, ⟨es, clock, hb, h2⟩, h3⟩ := h
  exact ⟨D, ⟨es, clock, e.trans hb, h2⟩, h3⟩

theorem SI.lt {w : World} {b n seen} (h : SI w b n seen) : b < w.heap.size := by
  obtain ⟨D, h, _⟩ := h
  exact h.lt

theorem SI.look {w : World} {b n seen} (h : SI w b n seen) (s : ByteArray) (hs : s.size ≤ maxLen) :
    (Instr.lookup 105 (.map (some b)) (.string s) false).run Try.prog w = .ok (.int .i64 (seenI seen s.data.toList)) w := by
  obtain ⟨D, hown, hD⟩ := h
  obtain ⟨c, hrun, hat, _⟩ := hown.lookup_int lawS Try.underlying105 Try.underlying3 (zeroI _) (WideMaps.keyOf_string_mk Try.underlying9 hs)
  rw [hD] at hat
  simp at hat
  rw [hrun, hat]

theorem SI.put {w : World} {b n seen} (h : SI w b n seen) (hn : n < maxLen) (s : ByteArray) (hs : s.size ≤ maxLen) :
    ∃ w', (Instr.mapUpdate 105 (.map (some b)) (.string s) (.int .i64 1)).run Try.prog w = .ok () w' ∧ SI w' b (n + 1) (seen ++ [s.data.toList]) ∧ w.grownBy w' (some b) := by
  obtain ⟨D, hown, hD⟩ := h
  obtain ⟨w', hrun, hown', hg⟩ := hown.update lawS Try.underlying105 hn (WideMaps.keyOf_string_mk Try.underlying9 hs) (plainElem_int Try.underlying3 (a := 1) (by decide))
  refine ⟨w', hrun, ⟨_, hown', fun t => ?_⟩, hg⟩
  by_cases e : t = s.data.toList
  · subst e
    rw [atKey_put_same hown.isMap (show WideAt.IsKeyLit (.string _) from trivial)]
    simp [seenI]
  · rw [atKey_put_other (by simpa using e), hD]
    simp [seenI, e]

theorem rowE : (59 : TypeId) < Try.prog.types.size := of_decide_eq_true (by kernel_rfl)
theorem wideE : (match Try.prog.underlying 59 with | some (.array _ _) | some (.struct _) => true | _ => false) = true := by rw [Try.underlying59]
theorem deepE : Try.prog.keyTypeAt (Try.prog.types.size + 1) 59 = true := by kernel_rfl
theorem cellsE : Try.prog.cellsOf 59 = 2 := by kernel_rfl
set_option maxRecDepth 100000 in
theorem klawE : WideMaps.KeyLaw Try.prog 59 := deep_law_laid Try.laidOut (m := 2) (by omega) rowE (by kernel_rfl) wideE
theorem lawE : Keyed Try.prog 59 := Keyed.of_law klawE
theorem formedE {c0 c1 : Value} : (Value.agg #[c0, c1]).formed Try.prog 59 = true := by simp [Value.formed, Try.underlying59, cellsE]

set_option maxRecDepth 100000 in
theorem keyE (w : World) (x y : Int) (hx : (Lit.int .i64 x).wf = true) (hy : (Lit.int .i64 y).wf = true) : ∃ kl, keyOf Try.prog 59 (.agg #[.int .i64 x, .int .i64 y]) = some kl := by
  have h : DataW.Trod (H := Unit) (fun _ => ()) Try.prog w 0 (fun _ => true) true 59 (.agg #[.int .i64 x, .int .i64 y]) (.agg [.lit (.int .i64 x), .lit (.int .i64 y)]) ([] ++ []) :=
    shut_agg2 (y0 := (.lit (.int .i64 x), [])) (y1 := (.lit (.int .i64 y), [])) Try.underlying59 (by kernel_rfl) cellsE ⟨1, by simp [DataW.trod, Try.underlying3, hx]⟩ ⟨1, by simp [DataW.trod, Try.underlying3, hy]⟩
  exact ⟨_, (keyOf_asKey deepE wideE formedE h).1⟩

def seatR (v : Value) : Option (DataW Unit × List MemPlace) :=
  match v with
  | .agg xs => match xs.toList with
    | [.int .i64 a, .int .i64 b, .int .i64 c] => some (.agg [.lit (.int .i64 a), .lit (.int .i64 b), .lit (.int .i64 c)], [])
    | _ => none
  | _ => none

def seatD (t : Int × Int × Int) : DataW Unit := .agg [.lit (.int .i64 t.1), .lit (.int .i64 t.2.1), .lit (.int .i64 t.2.2)]
def seatV (t : Int × Int × Int) : Value := .agg #[.int .i64 t.1, .int .i64 t.2.1, .int .i64 t.2.2]

theorem seatR_mk (t : Int × Int × Int) : seatR (seatV t) = some (seatD t, []) := rfl

theorem seatR_inv {v : Value} {t : Int × Int × Int} {ps} (h : seatR v = some (seatD t, ps)) : v = seatV t := by
  unfold seatR at h
  split at h
  · rename_i xs
    split at h
    · rename_i a b c heq
      simp [seatD] at h
      obtain ⟨⟨rfl, h2, h3⟩, _⟩ := h
      subst h2; subst h3
      have : xs = #[.int .i64 t.1, .int .i64 t.2.1, .int .i64 t.2.2] := by
        apply Array.toList_inj.1; rw [heq]
      rw [this]; rfl
    · cases h
  · cases h

theorem zeroS (w : World) : (zeroValue 85).run Try.prog w = .ok (seatV (0, 0, 0)) w := by kernel_rfl


/-- Block b is a map from ends to seats that holds g. -/
def SE (w : World) (b n : Nat) (g : Int × Int → Option (Int × Int × Int)) : Prop :=
  ∃ D : DataW Unit, w.ownsMap Try.prog 59 seatR b n D ∧ ∀ (e : Int × Int) (kl : Lit), keyOf Try.prog 59 (.agg #[.int .i64 e.1, .int .i64 e.2]) = some kl → D.atKey kl (seatD (0, 0, 0)) = seatD ((g e).getD (0, 0, 0)) ∧ Maps.has D kl = (g e).isSome

theorem SE.made (w : World) : SE (w.alloc (.map #[] 0)) w.heap.size 0 (fun _ => none) :=
  ⟨_, World.ownsMap_made w _ _ _, fun _ _ _ => ⟨rfl, rfl⟩⟩

theorem SE.of_block {w w' : World} {b n g} (h : SE w b n g) (e : w'.heap[b]? = w.heap[b]?) : SE w' b n g := by
  obtain ⟨D, ⟨es, clock, hb, h2⟩, h3⟩ := h
  exact ⟨D, ⟨es, clock, e.trans hb, h2⟩, h3⟩

theorem SE.lt {w : World} {b n g} (h : SE w b n g) : b < w.heap.size := by
  obtain ⟨D, h, _⟩ := h
  exact h.lt

theorem SE.look {w : World} {b n g} (h : SE w b n g) (x y : Int) (hw : Wf2 (x, y)) :
    (Instr.lookup 66 (.map (some b)) (.agg #[.int .i64 x, .int .i64 y]) false).run Try.prog w = .ok (seatV ((g (x, y)).getD (0, 0, 0))) w := by
  obtain ⟨D, hown, hD⟩ := h
  obtain ⟨kl, hkl⟩ := keyE w x y hw.1 hw.2
  obtain ⟨v, ps, hrun, hv⟩ := hown.lookup lawE Try.underlying66 (zeroS w) (seatR_mk _) hkl
  rw [(hD (x, y) kl hkl).1] at hv
  rw [hrun, seatR_inv hv]

theorem SE.look_ok {w : World} {b n g} (h : SE w b n g) (x y : Int) (hw : Wf2 (x, y)) :
    (Instr.lookup 66 (.map (some b)) (.agg #[.int .i64 x, .int .i64 y]) true).run Try.prog w = .ok (.tuple #[seatV ((g (x, y)).getD (0, 0, 0)), .bool (g (x, y)).isSome]) w := by
  obtain ⟨D, hown, hD⟩ := h
  obtain ⟨kl, hkl⟩ := keyE w x y hw.1 hw.2
  obtain ⟨v, ps, hrun, hv⟩ := hown.look_ok lawE Try.underlying66 (zeroS w) (seatR_mk _) hkl
  rw [(hD (x, y) kl hkl).1] at hv
  rw [hrun, seatR_inv hv, (hD (x, y) kl hkl).2]

theorem SE.put {w : World} {b n g} (h : SE w b n g) (hn : n < maxLen) (x y : Int) (hw : Wf2 (x, y)) (t : Int × Int × Int) :
    ∃ w', (Instr.mapUpdate 66 (.map (some b)) (.agg #[.int .i64 x, .int .i64 y]) (seatV t)).run Try.prog w = .ok () w' ∧ SE w' b (n + 1) (fun e => if e = (x, y) then some t else g e) ∧ w.grownBy w' (some b) := by
  obtain ⟨D, hown, hD⟩ := h
  obtain ⟨kl, hkl⟩ := keyE w x y hw.1 hw.2
  obtain ⟨w', hrun, hown', hg⟩ := hown.update lawE Try.underlying66 hn hkl (seatR_mk t)
  refine ⟨w', hrun, ⟨_, hown', fun e kl' hkl' => ?_⟩, hg⟩
  by_cases he : e = (x, y)
  · subst he
    obtain rfl : kl = kl' := by rw [hkl] at hkl'; exact Option.some.inj hkl'
    rw [atKey_put_same hown.isMap (lawE.key hkl), has_put_same hown.isMap (lawE.key hkl)]
    simp
  · have hne : kl' ≠ kl := by
      intro hk
      subst hk
      have := lawE.inj hkl' hkl
      simp at this
      exact he (Prod.ext this.1 this.2)
    rw [atKey_put_other hne, has_put_other hne]
    simp only [if_neg he]
    exact hD e kl' hkl'
end Go.Proofs.Yteapmddadieohaa

namespace Go.Proofs.Yteapmddadieohaa
open Go.RowKit
set_option maxHeartbeats 1000000

theorem sizeOk_any (a a' : Option Addr) (n m cap cap' : Nat) (w : World) :
    Calls Try.prog 47 #[.agg #[.slice a n cap, .slice a' m cap']] w fun e w' =>
    e = .returned (.bool (inR n 1 100 && decide ((m : Int) ≤ 120))) ∧ Below w.heap.size w w' := by
  cases h : inR (n : Int) 1 100
  all_goals
    have H := hide h
    clear h
    go_enter Try.func47, Try.ntmps47
    go_wp2_with fail
    refine (inRange_any _ _ _ _).mono ?_
    rintro e w1 ⟨rfl, rfl⟩
    rw [H.out]
    go_wp2_with fail
    go_ret
    exact ⟨ret_b (by simp), (Below.refl _ _).alloc (Nat.le_refl _) _⟩

theorem pieceOk_any (p : Pc) (w : World) (hs : p.name.size ≤ 1048576) :
    Calls Try.prog 60 #[.agg #[.string p.name, .int .i64 p.len, .int .i64 p.speed, .int .i64 p.brake]] w fun e w' =>
    e = .returned (.bool p.ok) ∧ Below w.heap.size w w' := by
  cases h1 : nm p.name
  · have H1 := hide h1
    clear h1
    go_enter Try.func60, Try.ntmps60
    go_wp2_with fail
    refine (nameOk_any p.name _ hs).mono ?_
    rintro e w1 ⟨rfl, rfl⟩
    rw [H1.out]
    go_wp2_with fail
    go_ret
    exact ⟨ret_b (by simp [Pc.ok, H1.out]), (Below.refl _ _).alloc (Nat.le_refl _) _⟩
  have H1 := hide h1
  clear h1
  cases h2 : inR p.len 1 10000000
  · have H2 := hide h2
    clear h2
    go_enter Try.func60, Try.ntmps60
    go_wp2_with fail
    refine (nameOk_any p.name _ hs).mono ?_
    rintro e w1 ⟨rfl, rfl⟩
    rw [H1.out]
    go_wp2_with fail
    refine (inRange_any _ _ _ _).mono ?_
    rintro e w1 ⟨rfl, rfl⟩
    rw [H2.out]
    go_wp2_with fail
    go_ret
    exact ⟨ret_b (by simp [Pc.ok, H2.out]), (Below.refl _ _).alloc (Nat.le_refl _) _⟩
  have H2 := hide h2
  clear h2
  cases h3 : inR p.speed 1 10000
  · have H3 := hide h3
    clear h3
    go_enter Try.func60, Try.ntmps60
    go_wp2_with fail
    refine (nameOk_any p.name _ hs).mono ?_
    rintro e w1 ⟨rfl, rfl⟩
    rw [H1.out]
    go_wp2_with fail
    refine (inRange_any _ _ _ _).mono ?_
    rintro e w1 ⟨rfl, rfl⟩
    rw [H2.out]
    go_wp2_with fail
    refine (inRange_any _ _ _ _).mono ?_
    rintro e w1 ⟨rfl, rfl⟩
    rw [H3.out]
    go_wp2_with fail
    go_ret
    exact ⟨ret_b (by simp [Pc.ok, H3.out]), (Below.refl _ _).alloc (Nat.le_refl _) _⟩
  have H3 := hide h3
  clear h3
  go_enter Try.func60, Try.ntmps60
  go_wp2_with fail
  refine (nameOk_any p.name _ hs).mono ?_
  rintro e w1 ⟨rfl, rfl⟩
  rw [H1.out]
  go_wp2_with fail
  refine (inRange_any _ _ _ _).mono ?_
  rintro e w1 ⟨rfl, rfl⟩
  rw [H2.out]
  go_wp2_with fail
  refine (inRange_any _ _ _ _).mono ?_
  rintro e w1 ⟨rfl, rfl⟩
  rw [H3.out]
  go_wp2_with fail
  refine (inRange_any _ _ _ _).mono ?_
  rintro e w1 ⟨rfl, rfl⟩
  go_wp2_with fail
  go_ret
  exact ⟨ret_b (by simp [Pc.ok, H1.out, H2.out, H3.out]), (Below.refl _ _).alloc (Nat.le_refl _) _⟩

theorem seen_pcs (ps : List Pc) (k : Nat) (hk : k < ps.length) : seenI ((ps.take k).map (·.name.data.toList)) ps[k].name.data.toList = if (ps.take k).any (fun q => q.name.toList == ps[k].name.toList) then 1 else 0 := by
  unfold seenI
  congr 1
  rw [eq_iff_iff, List.contains_iff_exists_mem_beq, List.any_eq_true]
  simp only [List.mem_map, Lib.toList_data]
  constructor
  · rintro ⟨x, ⟨q, hq, rfl⟩, h⟩
    exact ⟨q, hq, by simpa using (beq_iff_eq.1 h).symm⟩
  · rintro ⟨q, hq, h⟩
    exact ⟨_, ⟨q, hq, rfl⟩, by simpa using (beq_iff_eq.1 h).symm⟩

theorem wrongPiece_any (a : Option Addr) (ps : List Pc) (cap : Nat) (w : World) (hn : ps.length ≤ 1048576) (hs : ∀ p ∈ ps, p.name.size ≤ 1048576) (hp : PcsAt w a ps) :
    Calls Try.prog 48 #[.slice a ps.length cap] w fun e w' =>
    e = .returned (.int .i64 (firstI (pcBad ps) ps.length)) ∧ Below w.heap.size w w' := by
  have HP := hide hp
  have HS := hide hs
  clear hp hs
  have hmm := @run_makeMap Try.prog
  go_enter Try.func48, Try.ntmps48
  go_wp2_with fail
  go_loopw [4, 5, 9] (fun _ _ i wr => ∃ (k : Nat), k ≤ ps.length ∧ i = .int .i64 k ∧ (∀ j, j < k → pcBad ps j = false) ∧ Hid (SI wr w.heap.size k ((ps.take k).map (·.name.data.toList))) ∧ Below w.heap.size w wr) (fun _ _ i _ => ps.length - (intOf i).toNat)
  case atStart => exact ⟨0, Nat.zero_le _, rfl, by intro j hj; omega, SI.made w, (Below.refl _ _).alloc (Nat.le_refl _) _⟩
  case round =>
    obtain ⟨k, hk, rfl, hall, hSI, hb⟩ := hrel
    have HA := hide hall
    clear hall hmm
    by_cases hlt : k < ps.length
    · obtain ⟨b, off, rfl, c0, c1, c2, c3⟩ := (PcsAt.later HP.out hb) k hlt
      have hblt := cell_lt c0
      have hsz := HS.out _ (List.getElem_mem hlt)
      go_wp2_with fail
      refine (pieceOk_any ps[k] _ hsz).mono ?_
      rintro e w1 ⟨rfl, hb1⟩
      have hbA : Below wr.heap.size wr w1 := ((Below.refl _ _).alloc (Nat.le_refl _) _).trans (hb1.mono (by simp))
      have hb2 := hb.trans (hbA.mono hb.size)
      have d0 := box_cell hb1 0 _ rfl
      have hSI1 := hSI.out.of_block (hbA.block _ hSI.out.lt)
      have hl := hSI1.look ps[k].name (by unfold maxLen; omega)
      rw [seen_pcs ps k hlt] at hl
      cases hok : ps[k].ok
      · have HOK := hide hok
        clear hok hl hSI1
        go_wp2_with fail
        go_ret
        exact ⟨ret_i (firstI_some hlt (by rw [pcBad_eq hlt, HOK.out]; rfl) HA.out).symm, hb2⟩
      · have HOK := hide hok
        clear hok
        cases hany : (ps.take k).any (fun q => q.name.toList == ps[k].name.toList)
        · rw [hany] at hl
          have HN := hide hany
          clear hany
          obtain ⟨w2, hput, hSI2, hg⟩ := hSI1.put (by unfold maxLen; omega) ps[k].name (by unfold maxLen; omega)
          have HSI2 := hide hSI2
          have HG := hide hg
          clear hSI2 hg hSI1
          go_wp2_with fail
          go_roundw
          case rel =>
            refine ⟨k + 1, by omega, by go_num, ?_, ?_, hb2.grown HG.out hb2.size (fun j hj => by cases hj; exact Nat.le_refl _)⟩
            · intro j hj
              by_cases e : j = k
              · subst e; rw [pcBad_eq hlt, HN.out, HOK.out]; rfl
              · exact HA.out j (by omega)
            · show SI _ _ _ _
              rw [List.take_succ_eq_append_getElem hlt, List.map_append]
              exact HSI2.out
          case measure => simp [intOf]; omega
        · rw [hany] at hl
          have HN := hide hany
          clear hany hSI1
          go_wp2_with fail
          go_ret
          exact ⟨ret_i (firstI_some hlt (by rw [pcBad_eq hlt, HN.out]; simp) HA.out).symm, hb2⟩
    · go_wp2_with fail
      go_ret
      exact ⟨ret_i (firstI_none (fun j hj => HA.out j (by omega))).symm, hb⟩
end Go.Proofs.Yteapmddadieohaa

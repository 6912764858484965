import Derived.Test.YtldafgbhjpfboaaGreatMxAA
import Derived.Maps.OwnSet
import Derived.Maps.Views
import Derived.DeepKeys4
import Derived.Lib.SmallJoins
import Derived.Test.YtldafgbhjpfboaaGreatTo
import Derived.Deep.RegionWith
import Derived.Deep.QuietTactic
import Derived.BigQuiet
namespace Go.Proofs.YtldafgbhjpfboaaGreat
open Go.RowKit Go.Maps Go.Joins

theorem lawS : Keyed Tryz.prog 9 := string_keyed Tryz.underlying9
theorem zeroI (w : World) : (zeroValue 3).run Tryz.prog w = .ok (.int .i64 0) w := by kernel_rfl

def seenI (seen : List (List UInt8)) (t : List UInt8) : Int := if seen.contains t then 1 else 0

/-- Block b is a map that holds 1 at each of the seen names, and nothing else. -/
def SI (w : World) (b n : Nat) (seen : List (List UInt8)) : Prop :=
  ∃ D : DataW Unit, w.ownsMap Tryz.prog 9 (plainElem Tryz.prog 3) b n D ∧ ∀ s : List UInt8, D.atKey (.string s) (.lit (.int .i64 0)) = .lit (.int .i64 (seenI seen s))

theorem SI.made (w : World) : SI (w.alloc (.map #[] 0)) w.heap.size 0 [] :=
  ⟨_, World.ownsMap_made w _ _ _, fun _ => rfl⟩

theorem SI.of_block {w w' : World} {b n seen} (h : SI w b n seen) (e : w'.heap[b]? = w.heap[b]?) : SI w' b n seen := by
  obtain ⟨D, ⟨es, clock, hb, h2⟩, h3⟩ := h
  exact ⟨D, ⟨es, clock, e.trans hb, h2⟩, h3⟩

theorem SI.lt {w : World} {b n seen} (h : SI w b n seen) : b < w.heap.size := by
  obtain ⟨D, h, _⟩ := h
  exact h.lt

theorem SI.look {w : World} {b n seen} (h : SI w b n seen) (s : ByteArray) (hs : s.size ≤ maxLen) :
    (Instr.lookup 141 (.map (some b)) (.string s) false).run Tryz.prog w = .ok (.int .i64 (seenI seen s.data.toList)) w := by
  obtain ⟨D, hown, hD⟩ := h
  obtain ⟨c, hrun, hat, _⟩ := hown.lookup_int lawS Tryz.underlying141 Tryz.underlying3 (zeroI _) (WideMaps.keyOf_string_mk Tryz.underlying9 hs)
  rw [hD] at hat
  simp at hat
  rw [hrun, hat]

theorem SI.put {w : World} {b n seen} (h : SI w b n seen) (hn : n < maxLen) (s : ByteArray) (hs : s.size ≤ maxLen) :
    ∃ w', (Instr.mapUpdate 141 (.map (some b)) (.string s) (.int .i64 1)).run Tryz.prog w = .ok () w' ∧ SI w' b (n + 1) (seen ++ [s.data.toList]) ∧ w.grownBy w' (some b) := by
  obtain ⟨D, hown, hD⟩ := h
  obtain ⟨w', hrun, hown', hg⟩ := hown.update lawS Tryz.underlying141 hn (WideMaps.keyOf_string_mk Tryz.underlying9 hs) (plainElem_int Tryz.underlying3 (a := 1) (by decide))
  refine ⟨w', hrun, ⟨_, hown', fun t => ?_⟩, hg⟩
  by_cases e : t = s.data.toList
  · subst e
    rw [atKey_put_same hown.isMap (show WideAt.IsKeyLit (.string _) from trivial)]
    simp [seenI]
  · rw [atKey_put_other (by simpa using e), hD]
    simp [seenI, e]

theorem rowE : (89 : TypeId) < Tryz.prog.types.size := of_decide_eq_true (by kernel_rfl)
theorem wideE : (match Tryz.prog.underlying 89 with | some (.array _ _) | some (.struct _) => true | _ => false) = true := by rw [Tryz.underlying89]
theorem deepE : Tryz.prog.keyTypeAt (Tryz.prog.types.size + 1) 89 = true := by kernel_rfl
theorem cellsE : Tryz.prog.cellsOf 89 = 2 := by kernel_rfl
set_option maxRecDepth 100000 in
theorem klawE : WideMaps.KeyLaw Tryz.prog 89 := deep_law_laid Tryz.laidOut (m := 2) (by omega) rowE (by kernel_rfl) wideE
theorem lawE : Keyed Tryz.prog 89 := Keyed.of_law klawE
theorem formedE {c0 c1 : Value} : (Value.agg #[c0, c1]).formed Tryz.prog 89 = true := by simp [Value.formed, Tryz.underlying89, cellsE]

set_option maxRecDepth 100000 in
theorem keyE (w : World) (x y : Int) (hx : (Lit.int .i64 x).wf = true) (hy : (Lit.int .i64 y).wf = true) : ∃ kl, keyOf Tryz.prog 89 (.agg #[.int .i64 x, .int .i64 y]) = some kl := by
  have h : DataW.Trod (H := Unit) (fun _ => ()) Tryz.prog w 0 (fun _ => true) true 89 (.agg #[.int .i64 x, .int .i64 y]) (.agg [.lit (.int .i64 x), .lit (.int .i64 y)]) ([] ++ []) :=
    shut_agg2 (y0 := (.lit (.int .i64 x), [])) (y1 := (.lit (.int .i64 y), [])) Tryz.underlying89 (by kernel_rfl) cellsE ⟨1, by simp [DataW.trod, Tryz.underlying3, hx]⟩ ⟨1, by simp [DataW.trod, Tryz.underlying3, hy]⟩
  exact ⟨_, (keyOf_asKey deepE wideE formedE h).1⟩

def seatR (v : Value) : Option (DataW Unit × List MemPlace) :=
  match v with
  | .agg xs => match xs.toList with
    | [.int .i64 a, .int .i64 b, .int .i64 c] => some (.agg [.lit (.int .i64 a), .lit (.int .i64 b), .lit (.int .i64 c)], [])
    | _ => none
  | _ => none

def seatD (t : Int × Int × Int) : DataW Unit := .agg [.lit (.int .i64 t.1), .lit (.int .i64 t.2.1), .lit (.int .i64 t.2.2)]
def seatV (t : Int × Int × Int) : Value := .agg #[.int .i64 t.1, .int .i64 t.2.1, .int .i64 t.2.2]

theorem seatR_mk (t : Int × Int × Int) : seatR (seatV t) = some (seatD t, []) := rfl

theorem seatR_inv {v : Value} {t : Int × Int × Int} {ps} (h : seatR v = some (seatD t, ps)) : v = seatV t := by
  unfold seatR at h
  split at h
  · rename_i xs
    split at h
    · rename_i a b c heq
      simp [seatD] at h
      obtain ⟨⟨rfl, h2, h3⟩, _⟩ := h
      subst h2; subst h3
      have : xs = #[.int .i64 t.1, .int .i64 t.2.1, .int .i64 t.2.2] := by
        apply Array.toList_inj.1; rw [heq]
      rw [this]; rfl
    · cases h
  · cases h

theorem zeroS (w : World) : (zeroValue 124).run Tryz.prog w = .ok (seatV (0, 0, 0)) w := by kernel_rfl


/-- Block b is a map from ends to seats that holds g. -/
def SE (w : World) (b n : Nat) (g : Int × Int → Option (Int × Int × Int)) : Prop :=
  ∃ D : DataW Unit, w.ownsMap Tryz.prog 89 seatR b n D ∧ ∀ (e : Int × Int) (kl : Lit), keyOf Tryz.prog 89 (.agg #[.int .i64 e.1, .int .i64 e.2]) = some kl → D.atKey kl (seatD (0, 0, 0)) = seatD ((g e).getD (0, 0, 0)) ∧ Maps.has D kl = (g e).isSome

theorem SE.made (w : World) : SE (w.alloc (.map #[] 0)) w.heap.size 0 (fun _ => none) :=
  ⟨_, World.ownsMap_made w _ _ _, fun _ _ _ => ⟨rfl, rfl⟩⟩

theorem SE.of_block {w w' : World} {b n g} (h : SE w b n g) (e : w'.heap[b]? = w.heap[b]?) : SE w' b n g := by
  obtain ⟨D, ⟨es, clock, hb, h2⟩, h3⟩ := h
  exact ⟨D, ⟨es, clock, e.trans hb, h2⟩, h3⟩

theorem SE.lt {w : World} {b n g} (h : SE w b n g) : b < w.heap.size := by
  obtain ⟨D, h, _⟩ := h
  exact h.lt

theorem SE.look {w : World} {b n g} (h : SE w b n g) (x y : Int) (hw : Wf2 (x, y)) :
    (Instr.lookup 64 (.map (some b)) (.agg #[.int .i64 x, .int .i64 y]) false).run Tryz.prog w = .ok (seatV ((g (x, y)).getD (0, 0, 0))) w := by
  obtain ⟨D, hown, hD⟩ := h
  obtain ⟨kl, hkl⟩ := keyE w x y hw.1 hw.2
  obtain ⟨v, ps, hrun, hv⟩ := hown.lookup lawE Tryz.underlying64 (zeroS w) (seatR_mk _) hkl
  rw [(hD (x, y) kl hkl).1] at hv
  rw [hrun, seatR_inv hv]

theorem SE.look_ok {w : World} {b n g} (h : SE w b n g) (x y : Int) (hw : Wf2 (x, y)) :
    (Instr.lookup 64 (.map (some b)) (.agg #[.int .i64 x, .int .i64 y]) true).run Tryz.prog w = .ok (.tuple #[seatV ((g (x, y)).getD (0, 0, 0)), .bool (g (x, y)).isSome]) w := by
  obtain ⟨D, hown, hD⟩ := h
  obtain ⟨kl, hkl⟩ := keyE w x y hw.1 hw.2
  obtain ⟨v, ps, hrun, hv⟩ := hown.look_ok lawE Tryz.underlying64 (zeroS w) (seatR_mk _) hkl
  rw [(hD (x, y) kl hkl).1] at hv
  rw [hrun, seatR_inv hv, (hD (x, y) kl hkl).2]

theorem SE.put {w : World} {b n g} (h : SE w b n g) (hn : n < maxLen) (x y : Int) (hw : Wf2 (x, y)) (t : Int × Int × Int) :
    ∃ w', (Instr.mapUpdate 64 (.map (some b)) (.agg #[.int .i64 x, .int .i64 y]) (seatV t)).run Tryz.prog w = .ok () w' ∧ SE w' b (n + 1) (fun e => if e = (x, y) then some t else g e) ∧ w.grownBy w' (some b) := by
  obtain ⟨D, hown, hD⟩ := h
  obtain ⟨kl, hkl⟩ := keyE w x y hw.1 hw.2
  obtain ⟨w', hrun, hown', hg⟩ := hown.update lawE Tryz.underlying64 hn hkl (seatR_mk t)
  refine ⟨w', hrun, ⟨_, hown', fun e kl' hkl' => ?_⟩, hg⟩
  by_cases he : e = (x, y)
  · subst he
    obtain rfl : kl = kl' := by rw [hkl] at hkl'; exact Option.some.inj hkl'
    rw [atKey_put_same hown.isMap (lawE.key hkl), has_put_same hown.isMap (lawE.key hkl)]
    simp
  · have hne : kl' ≠ kl := by
      intro hk
      subst hk
      have := lawE.inj hkl' hkl
      simp at this
      exact he (Prod.ext this.1 this.2)
    rw [atKey_put_other hne, has_put_other hne]
    simp only [if_neg he]
    exact hD e kl' hkl'
end Go.Proofs.YtldafgbhjpfboaaGreat

namespace Go.Proofs.YtldafgbhjpfboaaGreat
open Go.RowKit
set_option maxHeartbeats 1000000

theorem sizeOk_any (a a' : Option Addr) (n m cap cap' : Nat) (w : World) :
    Calls Tryz.prog 57 #[.agg #[.slice a n cap, .slice a' m cap']] w fun e w' =>
    e = .returned (.bool (inR n 1 100 && decide ((m : Int) ≤ 120))) ∧ Below w.heap.size w w' := by
  cases h : inR (n : Int) 1 100
  all_goals
    have H := hide h
    clear h
    go_enter Tryz.func57, Tryz.ntmps57
    go_wp2_with fail
    refine (inRange_any _ _ _ _).mono ?_
    rintro e w1 ⟨rfl, rfl⟩
    rw [H.out]
    go_wp2_with fail
    go_ret
    exact ⟨ret_b (by simp), (Below.refl _ _).alloc (Nat.le_refl _) _⟩

theorem pieceOk_any (p : Pc) (w : World) (hs : p.name.size ≤ 1048576) :
    Calls Tryz.prog 79 #[.agg #[.string p.name, .int .i64 p.len, .int .i64 p.speed, .int .i64 p.brake]] w fun e w' =>
    e = .returned (.bool p.ok) ∧ Below w.heap.size w w' := by
  cases h1 : nm p.name
  · have H1 := hide h1
    clear h1
    go_enter Tryz.func79, Tryz.ntmps79
    go_wp2_with fail
    refine (nameOk_any p.name _ hs).mono ?_
    rintro e w1 ⟨rfl, rfl⟩
    rw [H1.out]
    go_wp2_with fail
    go_ret
    exact ⟨ret_b (by simp [Pc.ok, H1.out]), (Below.refl _ _).alloc (Nat.le_refl _) _⟩
  have H1 := hide h1
  clear h1
  cases h2 : inR p.len 1 10000000
  · have H2 := hide h2
    clear h2
    go_enter Tryz.func79, Tryz.ntmps79
    go_wp2_with fail
    refine (nameOk_any p.name _ hs).mono ?_
    rintro e w1 ⟨rfl, rfl⟩
    rw [H1.out]
    go_wp2_with fail
    refine (inRange_any _ _ _ _).mono ?_
    rintro e w1 ⟨rfl, rfl⟩
    rw [H2.out]
    go_wp2_with fail
    go_ret
    exact ⟨ret_b (by simp [Pc.ok, H2.out]), (Below.refl _ _).alloc (Nat.le_refl _) _⟩
  have H2 := hide h2
  clear h2
  cases h3 : inR p.speed 1 10000
  · have H3 := hide h3
    clear h3
    go_enter Tryz.func79, Tryz.ntmps79
    go_wp2_with fail
    refine (nameOk_any p.name _ hs).mono ?_
    rintro e w1 ⟨rfl, rfl⟩
    rw [H1.out]
    go_wp2_with fail
    refine (inRange_any _ _ _ _).mono ?_
    rintro e w1 ⟨rfl, rfl⟩
    rw [H2.out]
    go_wp2_with fail
    refine (inRange_any _ _ _ _).mono ?_
    rintro e w1 ⟨rfl, rfl⟩
    rw [H3.out]
    go_wp2_with fail
    go_ret
    exact ⟨ret_b (by simp [Pc.ok, H3.out]), (Below.refl _ _).alloc (Nat.le_refl _) _⟩
  have H3 := hide h3
  clear h3
  go_enter Tryz.func79, Tryz.ntmps79
  go_wp2_with fail
  refine (nameOk_any p.name _ hs).mono ?_
  rintro e w1 ⟨rfl, rfl⟩
  rw [H1.out]
  go_wp2_with fail
  refine (inRange_any _ _ _ _).mono ?_
  rintro e w1 ⟨rfl, rfl⟩
  rw [H2.out]
  go_wp2_with fail
  refine (inRange_any _ _ _ _).mono ?_
  rintro e w1 ⟨rfl, rfl⟩
  rw [H3.out]
  go_wp2_with fail
  refine (inRange_any _ _ _ _).mono ?_
  rintro e w1 ⟨rfl, rfl⟩
  go_wp2_with fail
  go_ret
  exact ⟨ret_b (by simp [Pc.ok, H1.out, H2.out, H3.out]), (Below.refl _ _).alloc (Nat.le_refl _) _⟩

theorem seen_pcs (ps : List Pc) (k : Nat) (hk : k < ps.length) : seenI ((ps.take k).map (·.name.data.toList)) ps[k].name.data.toList = if (ps.take k).any (fun q => q.name.toList == ps[k].name.toList) then 1 else 0 := by
  unfold seenI
  congr 1
  rw [eq_iff_iff, List.contains_iff_exists_mem_beq, List.any_eq_true]
  simp only [List.mem_map, Lib.toList_data]
  constructor
  · rintro ⟨x, ⟨q, hq, rfl⟩, h⟩
    exact ⟨q, hq, by simpa using (beq_iff_eq.1 h).symm⟩
  · rintro ⟨q, hq, h⟩
    exact ⟨_, ⟨q, hq, rfl⟩, by simpa using (beq_iff_eq.1 h).symm⟩

theorem wrongPiece_any (a : Option Addr) (ps : List Pc) (cap : Nat) (w : World) (hn : ps.length ≤ 1048576) (hs : ∀ p ∈ ps, p.name.size ≤ 1048576) (hp : PcsAt w a ps) :
    Calls Tryz.prog 58 #[.slice a ps.length cap] w fun e w' =>
    e = .returned (.int .i64 (firstI (pcBad ps) ps.length)) ∧ Below w.heap.size w w' := by
  have HP := hide hp
  have HS := hide hs
  clear hp hs
  have hmm := @run_makeMap Tryz.prog
  go_enter Tryz.func58, Tryz.ntmps58
  go_wp2_with fail
  go_loopw [4, 5, 9] (fun _ _ i wr => ∃ (k : Nat), k ≤ ps.length ∧ i = .int .i64 k ∧ (∀ j, j < k → pcBad ps j = false) ∧ Hid (SI wr w.heap.size k ((ps.take k).map (·.name.data.toList))) ∧ Below w.heap.size w wr) (fun _ _ i _ => ps.length - (intOf i).toNat)
  case atStart => exact ⟨0, Nat.zero_le _, rfl, by intro j hj; omega, SI.made w, (Below.refl _ _).alloc (Nat.le_refl _) _⟩
  case round =>
    obtain ⟨k, hk, rfl, hall, hSI, hb⟩ := hrel
    have HA := hide hall
    clear hall hmm
    by_cases hlt : k < ps.length
    · obtain ⟨b, off, rfl, c0, c1, c2, c3⟩ := (PcsAt.later HP.out hb) k hlt
      have hblt := cell_lt c0
      have hsz := HS.out _ (List.getElem_mem hlt)
      go_wp2_with fail
      refine (pieceOk_any ps[k] _ hsz).mono ?_
      rintro e w1 ⟨rfl, hb1⟩
      have hbA : Below wr.heap.size wr w1 := ((Below.refl _ _).alloc (Nat.le_refl _) _).trans (hb1.mono (by simp))
      have hb2 := hb.trans (hbA.mono hb.size)
      have d0 := box_cell hb1 0 _ rfl
      have hSI1 := hSI.out.of_block (hbA.block _ hSI.out.lt)
      have hl := hSI1.look ps[k].name (by unfold maxLen; omega)
      rw [seen_pcs ps k hlt] at hl
      cases hok : ps[k].ok
      · have HOK := hide hok
        clear hok hl hSI1
        go_wp2_with fail
        go_ret
        exact ⟨ret_i (firstI_some hlt (by rw [pcBad_eq hlt, HOK.out]; rfl) HA.out).symm, hb2⟩
      · have HOK := hide hok
        clear hok
        cases hany : (ps.take k).any (fun q => q.name.toList == ps[k].name.toList)
        · rw [hany] at hl
          have HN := hide hany
          clear hany
          obtain ⟨w2, hput, hSI2, hg⟩ := hSI1.put (by unfold maxLen; omega) ps[k].name (by unfold maxLen; omega)
          have HSI2 := hide hSI2
          have HG := hide hg
          clear hSI2 hg hSI1
          go_wp2_with fail
          go_roundw
          case rel =>
            refine ⟨k + 1, by omega, by go_num, ?_, ?_, hb2.grown HG.out hb2.size (fun j hj => by cases hj; exact Nat.le_refl _)⟩
            · intro j hj
              by_cases e : j = k
              · subst e; rw [pcBad_eq hlt, HN.out, HOK.out]; rfl
              · exact HA.out j (by omega)
            · show SI _ _ _ _
              rw [List.take_succ_eq_append_getElem hlt, List.map_append]
              exact HSI2.out
          case measure => simp [intOf]; omega
        · rw [hany] at hl
          have HN := hide hany
          clear hany hSI1
          go_wp2_with fail
          go_ret
          exact ⟨ret_i (firstI_some hlt (by rw [pcBad_eq hlt, HN.out]; simp) HA.out).symm, hb2⟩
    · go_wp2_with fail
      go_ret
      exact ⟨ret_i (firstI_none (fun j hj => HA.out j (by omega))).symm, hb⟩
end Go.Proofs.YtldafgbhjpfboaaGreat

namespace Go.Proofs.YtldafgbhjpfboaaGreat
open Go.RowKit
set_option maxHeartbeats 1000000

theorem kindOf_none (k : Int) (h : k < 1 ∨ 4 < k) (w : World) : Calls Tryz.prog 92 #[.int .i64 k] w fun e w' => e = .returned .nilIface ∧ w = w' := by
  have h1 : (k == 1) = false := by rw [beq_eq_false_iff_ne]; omega
  have h2 : (k == 2) = false := by rw [beq_eq_false_iff_ne]; omega
  have h3 : (k == 3) = false := by rw [beq_eq_false_iff_ne]; omega
  have h4 : (k == 4) = false := by rw [beq_eq_false_iff_ne]; omega
  clear h
  go_enter Tryz.func92, Tryz.ntmps92
  go_wp2
  go_ret
  exact ⟨rfl, rfl⟩

theorem kindOf_1 (w : World) : Calls Tryz.prog 92 #[.int .i64 1] w fun e w' => e = .returned (.iface 167 (.agg #[])) ∧ w = w' := by
  go_enter Tryz.func92, Tryz.ntmps92
  go_wp2
  go_ret
  exact ⟨rfl, rfl⟩
theorem mn_1 (w : World) : (method 285 167 (.agg #[]) "loop.example/ballast/impl.named").run Tryz.prog w = .ok (122, .agg #[]) w := by kernel_rfl
theorem ms_1 (w : World) : (method 285 167 (.agg #[]) "loop.example/ballast/impl.size").run Tryz.prog w = .ok (123, .agg #[]) w := by kernel_rfl
theorem size_1 (w : World) : Calls Tryz.prog 123 #[.agg #[]] w fun e w' => e = .returned (.int .i64 1) ∧ Below w.heap.size w w' := by
  go_enter Tryz.func123, Tryz.ntmps123
  go_wp2
  go_ret
  exact ⟨rfl, (Below.refl _ _).alloc (Nat.le_refl _) _⟩
theorem named_1 (w : World) : Calls Tryz.prog 122 #[.agg #[]] w fun e w' => e = .returned (.bool false) ∧ Below w.heap.size w w' := by
  go_enter Tryz.func122, Tryz.ntmps122
  go_wp2
  go_ret
  exact ⟨rfl, (Below.refl _ _).alloc (Nat.le_refl _) _⟩

theorem kindOf_2 (w : World) : Calls Tryz.prog 92 #[.int .i64 2] w fun e w' => e = .returned (.iface 159 (.agg #[])) ∧ w = w' := by
  go_enter Tryz.func92, Tryz.ntmps92
  go_wp2
  go_ret
  exact ⟨rfl, rfl⟩
theorem mn_2 (w : World) : (method 285 159 (.agg #[]) "loop.example/ballast/impl.named").run Tryz.prog w = .ok (116, .agg #[]) w := by kernel_rfl
theorem ms_2 (w : World) : (method 285 159 (.agg #[]) "loop.example/ballast/impl.size").run Tryz.prog w = .ok (117, .agg #[]) w := by kernel_rfl
theorem size_2 (w : World) : Calls Tryz.prog 117 #[.agg #[]] w fun e w' => e = .returned (.int .i64 2) ∧ Below w.heap.size w w' := by
  go_enter Tryz.func117, Tryz.ntmps117
  go_wp2
  go_ret
  exact ⟨rfl, (Below.refl _ _).alloc (Nat.le_refl _) _⟩
theorem named_2 (w : World) : Calls Tryz.prog 116 #[.agg #[]] w fun e w' => e = .returned (.bool false) ∧ Below w.heap.size w w' := by
  go_enter Tryz.func116, Tryz.ntmps116
  go_wp2
  go_ret
  exact ⟨rfl, (Below.refl _ _).alloc (Nat.le_refl _) _⟩

theorem kindOf_3 (w : World) : Calls Tryz.prog 92 #[.int .i64 3] w fun e w' => e = .returned (.iface 160 (.agg #[])) ∧ w = w' := by
  go_enter Tryz.func92, Tryz.ntmps92
  go_wp2
  go_ret
  exact ⟨rfl, rfl⟩
theorem mn_3 (w : World) : (method 285 160 (.agg #[]) "loop.example/ballast/impl.named").run Tryz.prog w = .ok (118, .agg #[]) w := by kernel_rfl
theorem ms_3 (w : World) : (method 285 160 (.agg #[]) "loop.example/ballast/impl.size").run Tryz.prog w = .ok (119, .agg #[]) w := by kernel_rfl
theorem size_3 (w : World) : Calls Tryz.prog 119 #[.agg #[]] w fun e w' => e = .returned (.int .i64 3) ∧ Below w.heap.size w w' := by
  go_enter Tryz.func119, Tryz.ntmps119
  go_wp2
  go_ret
  exact ⟨rfl, (Below.refl _ _).alloc (Nat.le_refl _) _⟩
theorem named_3 (w : World) : Calls Tryz.prog 118 #[.agg #[]] w fun e w' => e = .returned (.bool true) ∧ Below w.heap.size w w' := by
  go_enter Tryz.func118, Tryz.ntmps118
  go_wp2
  go_ret
  exact ⟨rfl, (Below.refl _ _).alloc (Nat.le_refl _) _⟩

theorem kindOf_4 (w : World) : Calls Tryz.prog 92 #[.int .i64 4] w fun e w' => e = .returned (.iface 161 (.agg #[])) ∧ w = w' := by
  go_enter Tryz.func92, Tryz.ntmps92
  go_wp2
  go_ret
  exact ⟨rfl, rfl⟩
theorem mn_4 (w : World) : (method 285 161 (.agg #[]) "loop.example/ballast/impl.named").run Tryz.prog w = .ok (120, .agg #[]) w := by kernel_rfl
theorem ms_4 (w : World) : (method 285 161 (.agg #[]) "loop.example/ballast/impl.size").run Tryz.prog w = .ok (121, .agg #[]) w := by kernel_rfl
theorem size_4 (w : World) : Calls Tryz.prog 121 #[.agg #[]] w fun e w' => e = .returned (.int .i64 4) ∧ Below w.heap.size w w' := by
  go_enter Tryz.func121, Tryz.ntmps121
  go_wp2
  go_ret
  exact ⟨rfl, (Below.refl _ _).alloc (Nat.le_refl _) _⟩
theorem named_4 (w : World) : Calls Tryz.prog 120 #[.agg #[]] w fun e w' => e = .returned (.bool true) ∧ Below w.heap.size w w' := by
  go_enter Tryz.func120, Tryz.ntmps120
  go_wp2
  go_ret
  exact ⟨rfl, (Below.refl _ _).alloc (Nat.le_refl _) _⟩

theorem jointNameOk_1 (s : ByteArray) (a : Option Addr) (n cap : Nat) (w : World) :
    Calls Tryz.prog 81 #[.agg #[.int .i64 1, .string s, .slice a n cap]] w fun e w' =>
    e = .returned (.bool s.toList.isEmpty) ∧ Below w.heap.size w w' := by
  have hm := mn_1
  go_enter Tryz.func81, Tryz.ntmps81
  go_wp2_with fail
  refine (kindOf_1 _).mono ?_
  rintro e w1 ⟨rfl, rfl⟩
  go_wp2_with fail
  refine (named_1 _).mono ?_
  rintro e w1 ⟨rfl, hb1⟩
  have d1 := box_cell hb1 1 _ rfl
  have hb2 := ((Below.refl w.heap.size w).alloc (Nat.le_refl _) _).trans (hb1.mono (by simp))
  go_wp2_with fail
  go_ret
  exact ⟨rfl, hb2⟩

theorem jointNameOk_2 (s : ByteArray) (a : Option Addr) (n cap : Nat) (w : World) :
    Calls Tryz.prog 81 #[.agg #[.int .i64 2, .string s, .slice a n cap]] w fun e w' =>
    e = .returned (.bool s.toList.isEmpty) ∧ Below w.heap.size w w' := by
  have hm := mn_2
  go_enter Tryz.func81, Tryz.ntmps81
  go_wp2_with fail
  refine (kindOf_2 _).mono ?_
  rintro e w1 ⟨rfl, rfl⟩
  go_wp2_with fail
  refine (named_2 _).mono ?_
  rintro e w1 ⟨rfl, hb1⟩
  have d1 := box_cell hb1 1 _ rfl
  have hb2 := ((Below.refl w.heap.size w).alloc (Nat.le_refl _) _).trans (hb1.mono (by simp))
  go_wp2_with fail
  go_ret
  exact ⟨rfl, hb2⟩

theorem jointNameOk_3 (s : ByteArray) (a : Option Addr) (n cap : Nat) (w : World) (hs : s.size ≤ 1048576) :
    Calls Tryz.prog 81 #[.agg #[.int .i64 3, .string s, .slice a n cap]] w fun e w' =>
    e = .returned (.bool (nm s)) ∧ Below w.heap.size w w' := by
  have hm := mn_3
  go_enter Tryz.func81, Tryz.ntmps81
  go_wp2_with fail
  refine (kindOf_3 _).mono ?_
  rintro e w1 ⟨rfl, rfl⟩
  go_wp2_with fail
  refine (named_3 _).mono ?_
  rintro e w1 ⟨rfl, hb1⟩
  have d1 := box_cell hb1 1 _ rfl
  have hb2 := ((Below.refl w.heap.size w).alloc (Nat.le_refl _) _).trans (hb1.mono (by simp))
  go_wp2_with fail
  refine (nameOk_any s _ hs).mono ?_
  rintro e w2 ⟨rfl, rfl⟩
  go_wp2_with fail
  go_ret
  exact ⟨rfl, hb2⟩

theorem jointNameOk_4 (s : ByteArray) (a : Option Addr) (n cap : Nat) (w : World) (hs : s.size ≤ 1048576) :
    Calls Tryz.prog 81 #[.agg #[.int .i64 4, .string s, .slice a n cap]] w fun e w' =>
    e = .returned (.bool (nm s)) ∧ Below w.heap.size w w' := by
  have hm := mn_4
  go_enter Tryz.func81, Tryz.ntmps81
  go_wp2_with fail
  refine (kindOf_4 _).mono ?_
  rintro e w1 ⟨rfl, rfl⟩
  go_wp2_with fail
  refine (named_4 _).mono ?_
  rintro e w1 ⟨rfl, hb1⟩
  have d1 := box_cell hb1 1 _ rfl
  have hb2 := ((Below.refl w.heap.size w).alloc (Nat.le_refl _) _).trans (hb1.mono (by simp))
  go_wp2_with fail
  refine (nameOk_any s _ hs).mono ?_
  rintro e w2 ⟨rfl, rfl⟩
  go_wp2_with fail
  go_ret
  exact ⟨rfl, hb2⟩

theorem jointOk_none (k : Int) (h : k < 1 ∨ 4 < k) (s : ByteArray) (a : Option Addr) (es : List (Int × Int)) (cap n : Nat) (w : World) :
    Calls Tryz.prog 80 #[.agg #[.int .i64 k, .string s, .slice a es.length cap], .int .i64 n] w fun e w' =>
    e = .returned (.bool false) ∧ Below w.heap.size w w' := by
  go_enter Tryz.func80, Tryz.ntmps80
  go_wp2_with fail
  refine (kindOf_none k h _).mono ?_
  rintro e w1 ⟨rfl, rfl⟩
  go_wp2_with fail
  go_quiet (fail)
  go_wp2_with fail
  go_ret
  exact ⟨rfl, below_drewN ((Below.refl _ _).alloc (Nat.le_refl _) _) _⟩
end Go.Proofs.YtldafgbhjpfboaaGreat

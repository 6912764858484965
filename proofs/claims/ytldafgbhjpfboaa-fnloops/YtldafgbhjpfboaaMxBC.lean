/- spec.Loops. Own work. -/
import Derived.Test.YtldafgbhjpfboaaMxBA
import Derived.Test.YtldafgbhjpfboaaFrC
import Derived.Test.YtldafgbhjpfboaaMxAE
import Derived.Test.YtldafgbhjpfboaaMxAG
import Derived.Test.YtldafgbhjpfboaaWyP
namespace Go.Proofs.Ytldafgbhjpfboaa
open Go.RowKit Go.Sort
set_option maxHeartbeats 8000000
set_option maxRecDepth 100000

theorem specLoops_any (a a' : Option Addr) (N : Nt) (cap cap' : Nat) (w : World) (hright : netOk N = (0, 0)) (hn : N.pcs.length ≤ 9) (hsz : ∀ p ∈ N.pcs, p.name.size ≤ 1048576) (hl : N.jts.length ≤ 1048576) (hm : ∀ j ∈ N.jts, j.name.size ≤ 1048576 ∧ j.ends.length ≤ 1048576) (hP : PcsAt w a N.pcs) (hJ : JtsAt w a' N.jts) :
    Calls Try.prog 6 #[.agg #[.slice a N.pcs.length cap, .slice a' N.jts.length cap']] w fun e w' => ∃ v, e = .returned v ∧ LoopsR N hright w w' v := by
  obtain ⟨iS, hiS, hzS0, hzS1, hzS2⟩ := info_parts infoSteps
  have HIS := hide hiS
  have HS0 := hide hzS0
  have HS1 := hide hzS1
  have HS2 := hide hzS2
  have HP := hide hP
  have HJ := hide hJ
  have HR := hide hright
  have HM := hide hm
  have HSZ := hide hsz
  have hA := (Below.refl w.heap.size w).alloc (Nat.le_refl _) (.cells #[.slice a N.pcs.length cap, .slice a' N.jts.length cap'] 26)
  have n0 := new_cell w #[.slice a N.pcs.length cap, .slice a' N.jts.length cap'] 26 0 (.slice a N.pcs.length cap) rfl
  have n1 := new_cell w #[.slice a N.pcs.length cap, .slice a' N.jts.length cap'] 26 1 (.slice a' N.jts.length cap') rfl
  clear hiS hzS0 hzS1 hzS2 hP hJ hm hsz
  go_enter Try.func6, Try.ntmps6
  go_wp2_with fail
  refine (l1ok_any a a' N cap cap' _ (by omega) HSZ.out hl HM.out (HP.out.later hA) (HJ.out.later hA)).mono ?_
  rintro e w2 ⟨rfl, hb2⟩
  rw [show decide (netOk N = (0, 0)) = true from decide_eq_true HR.out]
  have HB2 := hide (hA.trans (hb2.mono hA.size))
  have n0 := cell_later' hb2 n0
  have n1 := cell_later' hb2 n1
  have hn2 := cell_lt n0
  clear hb2 hA
  go_wp2_with fail
  go_loopw [3, 4, 5, 6, 7, 8, 15] (fun s3 _ _ _ _ _ ix wr => ∃ (i : Nat) (l : List Lp), i ≤ N.pcs.length ∧ ix = .int .i64 i ∧ Hid (LpI w2 wr s3 l) ∧ Hid (l.map Lp.ss = loopsTo N hright (2 * i))) (fun _ _ _ _ _ _ ix _ => N.pcs.length - (intOf ix).toNat)
  case atStart => exact ⟨0, [], Nat.zero_le _, rfl, ⟨Below.refl _ _, World.ownsRow_nil _ _ _ _, fun i hi => by simp at hi⟩, rfl⟩
  case round =>
    obtain ⟨i, l, hi, rfl, HL, HQ⟩ := hrel
    by_cases hlt : i < N.pcs.length
    · have hii : (i : Int) < (N.pcs.length : Int) := by omega
      go_wp2_with fail
      go_loopw [3, 5, 6, 7, 8] (fun s3 s5 _ _ _ wr => ∃ (s : Nat) (l : List Lp), s ≤ 2 ∧ s5 = .int .i64 s ∧ Hid (LpI w2 wr s3 l) ∧ Hid (l.map Lp.ss = loopsTo N hright (2 * i + s))) (fun _ s5 _ _ _ _ => 2 - (intOf s5).toNat)
      case atStart => exact ⟨0, l, Nat.zero_le _, rfl, HL, HQ⟩
      case round =>
        obtain ⟨s, l2, hs, rfl, HL2, HQ2⟩ := hrel
        rename World => wx
        clear HL HQ
        by_cases hs2 : s < 2
        · have hsi : (s : Int) < 2 := by omega
          obtain ⟨p1, p2, p3, hEN⟩ : ∃ p1 p2 p3, enterP N ((i : Int), (s : Int)) = (p1, p2, p3) := ⟨_, _, _, rfl⟩
          have HEN := hide hEN
          have HAT := hide (loopAt_enter HR.out (by omega) hEN)
          have HSP := hide (show spotP N p1 p2 p3 = true by
            have h := enterP_ok HR.out (e := ((i : Int), (s : Int))) (by
              simp only [endOk, inR, Bool.and_eq_true, decide_eq_true_eq]
              omega)
            rw [hEN] at h
            exact h)
          have m0 := cell_later' HL2.out.below n0
          have m1 := cell_later' HL2.out.below n1
          clear hEN
          go_wp2_with fail
          refine (l3enter_at a a' N cap cap' i s _ HEN.out hlt (HP.out.later (HB2.out.trans (HL2.out.below.mono HB2.out.size)))).mono ?_
          rintro e w3 ⟨rfl, hb3⟩
          have HL3 := hide (HL2.out.later (hb3.alloc hb3.size (.cells #[.int .i64 p1, .int .i64 p2, .int .i64 p3] 53)))
          have m0 := cell_later' HL3.out.below n0
          have m1 := cell_later' HL3.out.below n1
          clear hb3 HL2
          go_wp2_with fail
          refine (l4from_any a a' N cap cap' p1 p2 p3 _ HR.out hn hl (fun j hj => (HM.out j hj).2) HSP.out (HP.out.later (HB2.out.trans (HL3.out.below.mono HB2.out.size))) (HJ.out.later (HB2.out.trans (HL3.out.below.mono HB2.out.size)))).mono ?_
          rintro e w5 ⟨bB, bl, rfl, hOB, hBL, hRS, hb5⟩
          have HL5 := hide (HL3.out.later hb5)
          have hbl := hBL (2 * i + s) (by omega)
          rw [HAT.out.1] at hbl
          have hw1 : IntKind.i64.wrap (2 * (i : Int)) = 2 * (i : Int) := by rw [IntKind.wrap_i64]; omega
          have hw2 : IntKind.i64.wrap (2 * (i : Int) + (s : Int)) = ((2 * i + s : Nat) : Int) := by rw [IntKind.wrap_i64]; omega
          have hix : ((2 * i + s : Nat) : Int) < ((2 * N.pcs.length : Nat) : Int) := by omega
          have HOB := hide hOB
          have HRS := hide hRS
          clear hBL hOB hRS hb5 HL3 m0 m1
          generalize hpp : 2 * i + s = p at *
          generalize hnn : 2 * N.pcs.length = n2 at *
          rcases hbl with ⟨hL0, hbp⟩ | ⟨ci, hL0, hbp⟩
          · obtain ⟨c0', c1', c2', c3', c4'⟩ := cfs_at HOB.out hbp
            have HQ3 := hide (show l2.map Lp.ss = loopsTo N hright (p + 1) by rw [loopsTo_none hL0]; exact HQ2.out)
            have hcl := cell_lt c0'
            have HL6 := hide (HL5.out.later ((Below.refl w5.heap.size w5).alloc (Nat.le_refl _) (.cells #[.int .i64 (lastS cN.y).1, .int .i64 cN.a, .int .i64 (lastS cN.y).2, .int .i64 cN.y.far, .slice cN.z cN.y.ss.length cN.c] 62)))
            have hfar : cN.y.far = -1 := rfl
            clear hL0 hbp
            go_wp2_with fail
            go_roundw
            case rel => exact ⟨s + 1, l2, by omega, by go_num, HL6, by have h := HQ3.out; rw [← hpp] at h; exact h⟩
            case measure => simp [intOf]; omega
          · obtain ⟨c0', c1', c2', c3', c4'⟩ := cfs_at HOB.out hbp
            have HRC := hide (HRS.out ci (List.mem_of_getElem? hbp))
            have HQ3 := hide (show ∀ x : Lp, x.ss = ci.y.ss → (l2 ++ [x]).map Lp.ss = loopsTo N hright (p + 1) from fun x hx => by rw [loopsTo_some hL0, List.map_append, HQ2.out, ← hx]; rfl)
            have hfar : 0 ≤ ci.y.far := by
              have h1 := lenAt_pos HR.out ((p / 2 : Nat) : Int) (by omega) (by omega)
              exact ((bestO_way hL0).way.far_le ⟨by omega, h1.2⟩).1
            have hlen : l2.length ≤ 20 := by
              have h1 := congrArg List.length HQ2.out
              have h2 := loopsTo_len N hright p
              rw [List.length_map] at h1
              omega
            have hml : l2.length + 1 ≤ maxLen := by unfold maxLen; omega
            have hcl := cell_lt c0'
            generalize lastS ci.y = ls at *
            obtain ⟨ls1, ls2⟩ := ls
            obtain ⟨⟨cf, cs⟩, ca, cz, cc⟩ := ci
            dsimp only at *
            have hA6 := (Below.refl w5.heap.size w5).alloc (Nat.le_refl _) (.cells #[.int .i64 ls1, .int .i64 ca, .int .i64 ls2, .int .i64 cf, .slice cz cs.length cc] 62)
            have HL6 := hide (HL5.out.later hA6)
            have HR6 := hide (HRC.out.later hA6)
            have x4 := new_cell w5 #[.int .i64 ls1, .int .i64 ca, .int .i64 ls2, .int .i64 cf, .slice cz cs.length cc] 62 4 (.slice cz cs.length cc) rfl
            have hs5 := HL5.out.below.size
            clear hL0 hbp
            go_upto_region 14 with fail
            clear c0' c1' c2' c3' c4'
            generalize w5.alloc (.cells #[.int .i64 ls1, .int .i64 ca, .int .i64 ls2, .int .i64 cf, .slice cz cs.length cc] 62) = w6 at *
            have hs6 := HL6.out.below.size
            go_wp2_with (first
              | (at_builtin; (refine wpList_append_lies _ rfl _ _ _ rfl w2.heap.size 30 iS _ 1 24 Try.underlying28 HIS.out HS0.out HS1.out HS2.out rfl (by omega) u3 l2.length (lpCells l2) rfl (HL6.out.own.alloc _) ⟨_, 0, none⟩ 1 1 [.slice cz cs.length cc] rfl rfl (news_at rfl) (by simp [Value.oneCell']) (by omega) hml (by omega) (by simp; omega) _ rfl ?_); intro g2 cp2 w7 hown2 hgrow2 _ _; have HO7 := hide hown2; have HG7 := hide hgrow2))
            all_goals
              have HLN := hide ((HL6.out.later ((Below.refl _ _).alloc (Nat.le_refl _) _)).app (x := ⟨cs, cz, cc⟩) (HR6.out.later ((Below.refl _ _).alloc (Nat.le_refl _) _)) HG7.out HO7.out)
              go_roundw
              case rel => exact ⟨s + 1, _, by omega, by go_num, HLN, by have h := HQ3.out ⟨cs, cz, cc⟩ rfl; rw [← hpp] at h; exact h⟩
              case measure => simp [intOf]; omega
        · have hse : s = 2 := by omega
          subst hse
          go_wp2_with fail
          go_roundw
          case rel => exact ⟨i + 1, l2, by omega, by go_num, HL2, HQ2⟩
          case measure => simp [intOf]; omega
    · have hie : i = N.pcs.length := by omega
      subst hie
      go_wp2_with fail
      go_ret
      exact ⟨_, rfl, l, owns_low HL.out.own HB2.out.size, HQ.out, HL.out.st, HB2.out.trans (HL.out.below.mono HB2.out.size)⟩
end Go.Proofs.Ytldafgbhjpfboaa

/- The map of the trails that are known. Own work. -/
namespace Go.Proofs.Ytldafgbhjpfboaa
open Go.RowKit Go.Maps Go.Joins

theorem rowSt : (32 : TypeId) < Try.prog.types.size := of_decide_eq_true (by kernel_rfl)
theorem wideSt : (match Try.prog.underlying 32 with | some (.array _ _) | some (.struct _) => true | _ => false) = true := by rw [Try.underlying32]
theorem deepSt : Try.prog.keyTypeAt (Try.prog.types.size + 1) 32 = true := by kernel_rfl
theorem cellsSt : Try.prog.cellsOf 32 = 2 := by kernel_rfl
set_option maxRecDepth 100000 in
theorem klawSt : WideMaps.KeyLaw Try.prog 32 := deep_law_laid Try.laidOut (m := 2) (by omega) rowSt (by kernel_rfl) wideSt
theorem lawSt : Keyed Try.prog 32 := Keyed.of_law klawSt
theorem formedSt {c0 c1 : Value} : (Value.agg #[c0, c1]).formed Try.prog 32 = true := by simp [Value.formed, Try.underlying32, cellsSt]

set_option maxRecDepth 100000 in
theorem keySt (w : World) (x y : Int) (hx : (Lit.int .i64 x).wf = true) (hy : (Lit.int .i64 y).wf = true) : ∃ kl, keyOf Try.prog 32 (.agg #[.int .i64 x, .int .i64 y]) = some kl := by
  have h : DataW.Trod (H := Unit) (fun _ => ()) Try.prog w 0 (fun _ => true) true 32 (.agg #[.int .i64 x, .int .i64 y]) (.agg [.lit (.int .i64 x), .lit (.int .i64 y)]) ([] ++ []) :=
    shut_agg2 (y0 := (.lit (.int .i64 x), [])) (y1 := (.lit (.int .i64 y), [])) Try.underlying32 (by kernel_rfl) cellsSt ⟨1, by simp [DataW.trod, Try.underlying3, hx]⟩ ⟨1, by simp [DataW.trod, Try.underlying3, hy]⟩
  exact ⟨_, (keyOf_asKey deepSt wideSt formedSt h).1⟩

/-- A trail as the map holds it: how far, the block of its steps (less than nought: none), how many, with how much room. -/
structure Tr where
  far : Int
  b : Int
  n : Nat
  c : Nat
def tr0 : Tr := ⟨0, -1, 0, 0⟩
def trA (t : Tr) : Option Addr := if t.b < 0 then none else some ⟨t.b.toNat, 0, none⟩
def trV (t : Tr) : Value := .agg #[.int .i64 t.far, .slice (trA t) t.n t.c]
def trD (t : Tr) : DataW Unit := .agg [.lit (.int .i64 t.far), .lit (.int .i64 (if t.b < 0 then -1 else t.b)), .lit (.int .i64 t.n), .lit (.int .i64 t.c)]
def trR (v : Value) : Option (DataW Unit × List MemPlace) :=
  match v with
  | .agg xs => match xs.toList with
    | [.int .i64 a, .slice z n c] => match z with
      | none => some (.agg [.lit (.int .i64 a), .lit (.int .i64 (-1)), .lit (.int .i64 n), .lit (.int .i64 c)], [])
      | some ⟨b, 0, none⟩ => some (.agg [.lit (.int .i64 a), .lit (.int .i64 (b : Int)), .lit (.int .i64 n), .lit (.int .i64 c)], [])
      | _ => none
    | _ => none
  | _ => none
theorem trR_mk (t : Tr) : trR (trV t) = some (trD t, []) := by
  unfold trV trD trR trA
  by_cases h : t.b < 0
  · simp [h]
  · have : ((t.b.toNat : Nat) : Int) = t.b := by omega
    simp [h, this]
theorem trR_inv {v : Value} {t : Tr} {ps} (h : trR v = some (trD t, ps)) : v = trV t := by
  unfold trR at h
  split at h
  · rename_i xs
    split at h
    · rename_i a z n c heq
      have hx : xs = #[.int .i64 a, .slice z n c] := by apply Array.toList_inj.1; rw [heq]
      split at h
      · simp [trD] at h
        obtain ⟨⟨h1, h2, h3, h4⟩, _⟩ := h
        have hb : t.b < 0 := by
          rcases Int.lt_or_le t.b 0 with h | h
          · exact h
          · have := h2 h; omega
        rw [hx]
        unfold trV trA
        rw [if_pos hb]
        have e1 : n = t.n := by omega
        have e2 : c = t.c := by omega
        rw [h1, e1, e2]
      · rename_i b
        simp [trD] at h
        obtain ⟨⟨h1, h2, h3, h4⟩, _⟩ := h
        have hb : ¬ t.b < 0 := by split at h2 <;> omega
        have hb2 : t.b.toNat = b := by rw [if_neg hb] at h2; omega
        rw [hx]
        unfold trV trA
        rw [if_neg hb, hb2]
        have e1 : n = t.n := by omega
        have e2 : c = t.c := by omega
        rw [h1, e1, e2]
      · cases h
    · cases h
  · cases h
theorem zeroTr (w : World) : (zeroValue 48).run Try.prog w = .ok (trV tr0) w := by kernel_rfl

/-- Block b is a map from steps to trails that holds g. -/
def KM (w : World) (b n : Nat) (g : Int × Int → Option Tr) : Prop :=
  ∃ D : DataW Unit, w.ownsMap Try.prog 32 trR b n D ∧ ∀ (e : Int × Int) (kl : Lit), keyOf Try.prog 32 (.agg #[.int .i64 e.1, .int .i64 e.2]) = some kl → D.atKey kl (trD tr0) = trD ((g e).getD tr0) ∧ Maps.has D kl = (g e).isSome

theorem KM.made (w : World) : KM (w.alloc (.map #[] 0)) w.heap.size 0 (fun _ => none) :=
  ⟨_, World.ownsMap_made w _ _ _, fun _ _ _ => ⟨rfl, rfl⟩⟩

theorem KM.of_block {w w' : World} {b n g} (h : KM w b n g) (e : w'.heap[b]? = w.heap[b]?) : KM w' b n g := by
  obtain ⟨D, ⟨es, clock, hb, h2⟩, h3⟩ := h
  exact ⟨D, ⟨es, clock, e.trans hb, h2⟩, h3⟩

theorem KM.lt {w : World} {b n g} (h : KM w b n g) : b < w.heap.size := by
  obtain ⟨D, h, _⟩ := h
  exact h.lt

theorem KM.look {w : World} {b n g} (h : KM w b n g) (x y : Int) (hw : Wf2 (x, y)) :
    (Instr.lookup 50 (.map (some b)) (.agg #[.int .i64 x, .int .i64 y]) false).run Try.prog w = .ok (trV ((g (x, y)).getD tr0)) w := by
  obtain ⟨D, hown, hD⟩ := h
  obtain ⟨kl, hkl⟩ := keySt w x y hw.1 hw.2
  obtain ⟨v, ps, hrun, hv⟩ := hown.lookup lawSt Try.underlying50 (zeroTr w) (trR_mk _) hkl
  rw [(hD (x, y) kl hkl).1] at hv
  rw [hrun, trR_inv hv]

theorem KM.look_ok {w : World} {b n g} (h : KM w b n g) (x y : Int) (hw : Wf2 (x, y)) :
    (Instr.lookup 50 (.map (some b)) (.agg #[.int .i64 x, .int .i64 y]) true).run Try.prog w = .ok (.tuple #[trV ((g (x, y)).getD tr0), .bool (g (x, y)).isSome]) w := by
  obtain ⟨D, hown, hD⟩ := h
  obtain ⟨kl, hkl⟩ := keySt w x y hw.1 hw.2
  obtain ⟨v, ps, hrun, hv⟩ := hown.look_ok lawSt Try.underlying50 (zeroTr w) (trR_mk _) hkl
  rw [(hD (x, y) kl hkl).1] at hv
  rw [hrun, trR_inv hv, (hD (x, y) kl hkl).2]

theorem KM.put {w : World} {b n g} (h : KM w b n g) (hn : n < maxLen) (x y : Int) (hw : Wf2 (x, y)) (t : Tr) :
    ∃ w', (Instr.mapUpdate 50 (.map (some b)) (.agg #[.int .i64 x, .int .i64 y]) (trV t)).run Try.prog w = .ok () w' ∧ KM w' b (n + 1) (fun e => if e = (x, y) then some t else g e) ∧ w.grownBy w' (some b) := by
  obtain ⟨D, hown, hD⟩ := h
  obtain ⟨kl, hkl⟩ := keySt w x y hw.1 hw.2
  obtain ⟨w', hrun, hown', hg⟩ := hown.update lawSt Try.underlying50 hn hkl (trR_mk t)
  refine ⟨w', hrun, ⟨_, hown', fun e kl' hkl' => ?_⟩, hg⟩
  by_cases he : e = (x, y)
  · subst he
    obtain rfl : kl = kl' := by rw [hkl] at hkl'; exact Option.some.inj hkl'
    rw [atKey_put_same hown.isMap (lawSt.key hkl), has_put_same hown.isMap (lawSt.key hkl)]
    simp
  · have hne : kl' ≠ kl := by
      intro hk
      subst hk
      have := lawSt.inj hkl' hkl
      simp at this
      exact he (Prod.ext this.1 this.2)
    rw [atKey_put_other hne, has_put_other hne]
    simp only [if_neg he]
    exact hD e kl' hkl'
end Go.Proofs.Ytldafgbhjpfboaa

/- impl: ends are taken. Own work. -/
import Derived.Test.YtcodpnkfpmjleaaGreatDoorMxAU
import Derived.Test.YtcodpnkfpmjleaaGreatDoorMxAN
import Derived.WideKeyEntry
import Derived.Deep.RegionHeld3
import Derived.Deep.RegionLaw
namespace Go.Proofs.YtcodpnkfpmjleaaGreatDoor
open Go.RowKit Go.Maps Go.Joins Go.Sort
set_option maxHeartbeats 4000000
set_option maxRecDepth 100000

/-! ### Of the blocks that stood only these have turned -/
structure On (S : Nat → Prop) (w w' : World) : Prop where
  os : w'.os = w.os
  tape : w'.tape = w.tape
  output : w'.output = w.output
  size : w.heap.size ≤ w'.heap.size
  block : ∀ b, b < w.heap.size → ¬ S b → w'.heap[b]? = w.heap[b]?
theorem On.refl (S : Nat → Prop) (w : World) : On S w w := ⟨rfl, rfl, rfl, Nat.le_refl _, fun _ _ _ => rfl⟩
theorem On.trans {S : Nat → Prop} {a b c : World} (h : On S a b) (k : On S b c) : On S a c :=
  ⟨k.os.trans h.os, k.tape.trans h.tape, k.output.trans h.output, Nat.le_trans h.size k.size, fun j hj hn => (k.block j (Nat.lt_of_lt_of_le hj h.size) hn).trans (h.block j hj hn)⟩
theorem On.of_below {S : Nat → Prop} {w w' : World} (h : Below w.heap.size w w') : On S w w' := ⟨h.os, h.tape, h.output, h.size, fun b hb _ => h.block b hb⟩
theorem On.of_grown {S : Nat → Prop} {w w' : World} {r : Option Nat} (h : w.grownBy w' r) (hr : ∀ b, r = some b → S b) : On S w w' :=
  ⟨h.os, h.tape, h.output, h.size, fun b hb hn => h.block b hb (fun e => hn (hr b e.symm))⟩
theorem On.mono {S S' : Nat → Prop} {w w' : World} (h : On S w w') (hs : ∀ b, b < w.heap.size → S b → S' b) : On S' w w' :=
  ⟨h.os, h.tape, h.output, h.size, fun b hb hn => h.block b hb (fun hS => hn (hs b hb hS))⟩
theorem On.set {S : Nat → Prop} (w : World) {b o : Nat} (hb : S b) (v : Value) : On S w (w.setCell ⟨b, o, none⟩ v) :=
  ⟨rfl, rfl, rfl, by rw [World.size_setCell]; exact Nat.le_refl _, fun k _ hn => Below.heap_setCell _ _ _ k (fun e => hn (by rw [e]; exact hb))⟩
theorem On.below {S : Nat → Prop} {n : Nat} {w0 w w' : World} (h : Below n w0 w) (k : On S w w') (hs : ∀ b, S b → n ≤ b) (hn : n ≤ w.heap.size) : Below n w0 w' :=
  ⟨k.os.trans h.os, k.tape.trans h.tape, k.output.trans h.output, Nat.le_trans h.size k.size, fun b hb => (k.block b (Nat.lt_of_lt_of_le hb hn) (fun hS => by have := hs b hS; omega)).trans (h.block b hb)⟩
theorem On.cell {S : Nat → Prop} {w w' : World} (h : On S w w') {b o : Nat} {v : Value} (hb : ¬ S b) (hc : w.cell? ⟨b, o, none⟩ = some v) : w'.cell? ⟨b, o, none⟩ = some v :=
  (World.cell?_of_block (a := ⟨b, o, none⟩) (h.block b (cell_lt hc) hb)).trans hc
theorem On.frozen {S : Nat → Prop} {w w' : World} (h : On S w w') {b o : Nat} (hl : b < w.heap.size) (hb : ¬ S b) : w'.frozen? ⟨b, o, none⟩ = w.frozen? ⟨b, o, none⟩ :=
  World.frozen?_of_block (a := ⟨b, o, none⟩) (h.block b hl hb)

/-- A callee that panics within a region whose order is drawn: the way ends there; what is left is an empty region. -/
theorem dieR {G : Prop} (P : Program) (w : World) (hG : G) (_ : wpAny P .any #[] (fun _ _ _ => True) 1 #[] { tmps := #[], defers := [] } w) : G := hG
/-! ### m[k]++ -/
/-- An entry is opened, and written: as one update. Whoever looks in between finds what was there. -/
theorem entry3 {P : Program} {t k e : TypeId} {R : Value → Option (DataW Unit × List MemPlace)} {w : World} {b : Nat} {es : Array MapEntry} {clock : Nat} (K : WideMaps.KeyLaw P k) (ht : P.underlying t = some (.map k e)) {z : Value} (hz : ∀ u : World, (zeroValue e).run P u = .ok z u) (hb : w.heap[b]? = some (.map es clock)) (F : WideElems.Fit P k R es clock) {key : Value} {kl : Lit} (hkey : keyOf P k key = some kl) :
    ∃ (v0 : Value) (st : Nat) (w1 : World), (Instr.mapEntry t (.map (some b)) key).run P w = .ok (.tuple #[v0, .int .i64 st]) w1 ∧ (w1.heap[b]? = w.heap[b]? ∨ ((Instr.lookup t (.map (some b)) key false).run P w = .ok z w ∧ (Instr.mapUpdate t (.map (some b)) key z).run P w = .ok () w1)) ∧
      ∀ val, ∃ w', (Instr.entryStore t (.map (some b)) (.int .i64 st) val).run P w1 = .ok () w' ∧ (Instr.mapUpdate t (.map (some b)) key val).run P w = .ok () w' := by
  have hbl : b < w.heap.size := (Array.getElem?_eq_some_iff.1 hb).1
  obtain ⟨v0, st, es1, clock1, hrun, _, hst⟩ := WideElems.entry_then_store K ht hz hb F hkey
  have hb1 : (ChangeMaps.setBlock w b (.map es1 clock1)).heap[b]? = some (.map es1 clock1) := by simp [ChangeMaps.setBlock, hbl]
  refine ⟨v0, st, _, hrun, ?_, fun val => ?_⟩
  · rcases K.find w hkey es.toList F.keys with ⟨h1, h2⟩ | ⟨j, e0, h1, h2, h3⟩
    · right
      have hr : (Instr.mapEntry t (.map (some b)) key).run P w = .ok (.tuple #[z, goInt clock]) (ChangeMaps.setBlock w b (.map (es.push ⟨key, z, clock⟩) (clock + 1))) := by
        simp [Instr.mapEntry, run_underlying ht, MapKept.run_getObj_map hb, K.check w false hkey, h1, hz, MapKept.run_setObj_map _ hb, Result.andThen, ChangeMaps.setBlock]
      rw [hrun] at hr
      have e : ChangeMaps.setBlock w b (.map es1 clock1) = ChangeMaps.setBlock w b (.map (es.push ⟨key, z, clock⟩) (clock + 1)) := by
        have := Result.ok.inj hr
        exact this.2
      rw [e]
      refine ⟨?_, ?_⟩
      · simp [Instr.lookup, run_underlying ht, MapKept.run_getObj_map hb, K.check w _ hkey, h1, hz, Result.andThen]
      · simp [Instr.mapUpdate, run_underlying ht, MapKept.run_getObj_map hb, K.check w false hkey, h1, MapKept.run_setObj_map _ hb, Result.andThen, ChangeMaps.setBlock]
    · left
      have hj : es[j]? = some e0 := by simpa using h2
      have hsame : es.modify j (fun e => { e with key := key }) = es := by
        apply Array.ext'
        rw [Array.toList_modify, ChangeMaps.modify_eq_set _ _ _ _ h2]
        have : ({ e0 with key := key } : MapEntry) = e0 := by rw [← h3]
        rw [this]
        exact WideElems.set_self _ _ _ h2
      have hr : (Instr.mapEntry t (.map (some b)) key).run P w = .ok (.tuple #[e0.val, goInt e0.born]) (ChangeMaps.setBlock w b (.map es clock)) := by
        simp [Instr.mapEntry, run_underlying ht, MapKept.run_getObj_map hb, K.check w false hkey, h1, hj, h3, K.stays w hkey, hsame, MapKept.run_setObj_map _ hb, Result.andThen, ChangeMaps.setBlock]
      rw [hrun] at hr
      have e : ChangeMaps.setBlock w b (.map es1 clock1) = ChangeMaps.setBlock w b (.map es clock) := by
        have := Result.ok.inj hr
        exact this.2
      rw [e, hb]
      simp [ChangeMaps.setBlock, hbl]
  · obtain ⟨es', clock', hr1, hr2⟩ := hst _ val hb1
    refine ⟨_, hr1, ?_⟩
    rw [hr2]
    simp [ChangeMaps.setBlock]
/-! ### The ends that are taken -/
def seenE (seen : List (Int × Int)) (e : Int × Int) : Int := if e ∈ seen then 1 else 0
/-- Block b is a map that holds 1 at each of the ends that are taken, 0 or nothing elsewhere. -/
def EI (w : World) (b n : Nat) (seen : List (Int × Int)) : Prop :=
  ∃ D : DataW Unit, w.ownsMap Tryz.prog 75 (plainElem Tryz.prog 3) b n D ∧ ∀ (e : Int × Int) (kl : Lit), keyOf Tryz.prog 75 (.agg #[.int .i64 e.1, .int .i64 e.2]) = some kl → D.atKey kl (.lit (.int .i64 0)) = .lit (.int .i64 (seenE seen e))
theorem EI.made (w : World) : EI (w.alloc (.map #[] 0)) w.heap.size 0 [] :=
  ⟨_, World.ownsMap_made w _ _ _, fun _ _ _ => rfl⟩
theorem EI.of_block {w w' : World} {b n seen} (h : EI w b n seen) (e : w'.heap[b]? = w.heap[b]?) : EI w' b n seen := by
  obtain ⟨D, ⟨es, clock, hb, h2⟩, h3⟩ := h
  exact ⟨D, ⟨es, clock, e.trans hb, h2⟩, h3⟩
theorem EI.lt {w : World} {b n seen} (h : EI w b n seen) : b < w.heap.size := by
  obtain ⟨D, h, _⟩ := h
  exact h.lt
theorem EI.isMap {w : World} {b n seen} (h : EI w b n seen) : ∃ es clock, w.heap[b]? = some (.map es clock) := by
  obtain ⟨D, ⟨es, clock, hb, h2⟩, h3⟩ := h
  exact ⟨es, clock, hb⟩
theorem EI.look {w : World} {b n seen} (h : EI w b n seen) (x y : Int) (hw : Wf2 (x, y)) :
    (Instr.lookup 127 (.map (some b)) (.agg #[.int .i64 x, .int .i64 y]) false).run Tryz.prog w = .ok (.int .i64 (seenE seen (x, y))) w := by
  obtain ⟨D, hown, hD⟩ := h
  obtain ⟨kl, hkl⟩ := keyE w x y hw.1 hw.2
  obtain ⟨c, hrun, hat, _⟩ := hown.lookup_int lawE Tryz.underlying127 Tryz.underlying3 (zeroI _) hkl
  rw [hD (x, y) kl hkl] at hat
  simp at hat
  rw [hrun, hat]
theorem EI.put {w : World} {b n seen} (h : EI w b n seen) (hn : n < maxLen) (x y : Int) (hw : Wf2 (x, y)) {c : Int} (hc : (Lit.int .i64 c).wf = true) {seen' : List (Int × Int)} (hs : ∀ e, seenE seen' e = if e = (x, y) then c else seenE seen e) :
    ∃ w', (Instr.mapUpdate 127 (.map (some b)) (.agg #[.int .i64 x, .int .i64 y]) (.int .i64 c)).run Tryz.prog w = .ok () w' ∧ EI w' b (n + 1) seen' ∧ w.grownBy w' (some b) := by
  obtain ⟨D, hown, hD⟩ := h
  obtain ⟨kl, hkl⟩ := keyE w x y hw.1 hw.2
  obtain ⟨w', hrun, hown', hg⟩ := hown.update lawE Tryz.underlying127 hn hkl (plainElem_int Tryz.underlying3 (a := c) hc)
  refine ⟨w', hrun, ⟨_, hown', fun e kl' hkl' => ?_⟩, hg⟩
  rw [hs e]
  by_cases he : e = (x, y)
  · subst he
    obtain rfl : kl = kl' := by rw [hkl] at hkl'; exact Option.some.inj hkl'
    rw [atKey_put_same hown.isMap (lawE.key hkl), if_pos rfl]
  · have hne : kl' ≠ kl := by
      intro hk
      subst hk
      have := lawE.inj hkl' hkl
      simp at this
      exact he (Prod.ext this.1 this.2)
    rw [atKey_put_other hne, if_neg he]
    exact hD e kl' hkl'
theorem EI.bump {w : World} {b n seen} (h : EI w b n seen) (hn : n < maxLen) (x y : Int) (hw : Wf2 (x, y)) (h0 : (x, y) ∉ seen) :
    ∃ (v0 : Value) (st : Nat) (w1 w' : World), (Instr.mapEntry 127 (.map (some b)) (.agg #[.int .i64 x, .int .i64 y])).run Tryz.prog w = .ok (.tuple #[v0, .int .i64 st]) w1 ∧ (Instr.lookup 127 (.map (some b)) (.agg #[.int .i64 x, .int .i64 y]) false).run Tryz.prog w1 = .ok (.int .i64 0) w1 ∧ (Instr.entryStore 127 (.map (some b)) (.int .i64 st) (.int .i64 1)).run Tryz.prog w1 = .ok () w' ∧ EI w' b (n + 1) (seen ++ [(x, y)]) ∧ w.grownBy w' (some b) := by
  have h' := h
  obtain ⟨D, ⟨es, clock, hb, F, hs, hD⟩, _⟩ := h
  obtain ⟨kl, hkl⟩ := keyE w x y hw.1 hw.2
  obtain ⟨v0, st, w1, hrun, hmid, hst⟩ := entry3 klawE Tryz.underlying127 zeroI hb F hkl
  have hz : seenE seen (x, y) = 0 := if_neg h0
  have hl' : (Instr.lookup 127 (.map (some b)) (.agg #[.int .i64 x, .int .i64 y]) false).run Tryz.prog w1 = .ok (.int .i64 0) w1 := by
    rcases hmid with e | ⟨_, e⟩
    · have := (h'.of_block e).look x y hw
      rw [hz] at this
      exact this
    · obtain ⟨w', hrun', hT, _⟩ := h'.put hn x y hw (c := 0) (by decide) (seen' := seen) (fun e => by split <;> rename_i h9 <;> first | (subst h9; exact hz) | rfl)
      rw [e] at hrun'
      obtain rfl : w1 = w' := (Result.ok.inj hrun').2
      have := hT.look x y hw
      rw [hz] at this
      exact this
  obtain ⟨w', hr1, hr2⟩ := hst (.int .i64 1)
  obtain ⟨w'', hrun', hT, hg⟩ := h'.put hn x y hw (c := 1) (by decide) (seen' := seen ++ [(x, y)]) (fun e => by unfold seenE; by_cases h9 : e = (x, y) <;> simp [h9])
  rw [hr2] at hrun'
  obtain rfl : w' = w'' := (Result.ok.inj hrun').2
  exact ⟨v0, st, w1, w', hrun, hl', hr1, hT, hg⟩
/-- Is one of the ends taken, or earlier in the row? -/
def clashS : List (Int × Int) → List (Int × Int) → Bool
  | _, [] => false
  | seen, e :: es => decide (e ∈ seen) || clashS (seen ++ [e]) es
theorem clashS_hit : ∀ (es seen : List (Int × Int)) (k : Nat) (hk : k < es.length), es[k] ∈ seen ++ es.take k → clashS seen es = true
  | [], _, k, hk, _ => by simp at hk
  | e :: es, seen, 0, _, h => by
    simp at h
    simp [clashS, h]
  | e :: es, seen, k + 1, hk, h => by
    rw [clashS, clashS_hit es (seen ++ [e]) k (by simpa using hk) (by simpa using h)]
    simp
theorem clashS_none : ∀ (es seen : List (Int × Int)), (∀ k (hk : k < es.length), es[k] ∉ seen ++ es.take k) → clashS seen es = false
  | [], _, _ => rfl
  | e :: es, seen, h => by
    have h0 := h 0 (by simp)
    simp at h0
    rw [clashS, clashS_none es (seen ++ [e]) (fun k hk => by have := h (k + 1) (by simpa using hk); simpa using this)]
    simp [h0]
theorem takeEnds_any (br be n : Nat) (seen : List (Int × Int)) (z : Option Addr) (cz : Nat) (es : List (Int × Int)) (line : Int) (w : World) (hw : ∀ e ∈ es, Wf2 e) (hn : n ≤ 1048576) (hl : es.length ≤ 1048576) (hc : w.cell? ⟨br, 0, none⟩ = some (.int .i64 line)) (hm : w.cell? ⟨br, 4, none⟩ = some (.map (some be))) (hE : EI w be n seen) (hz : EndsAt w z es) :
    Calls Tryz.prog 133 #[.pointer (some ⟨br, 0, none⟩), .slice z es.length cz] w fun e w' => ((clashS seen es = false ∧ (∃ v, e = .returned v) ∧ EI w' be (n + es.length) (seen ++ es)) ∨ (clashS seen es = true ∧ e = .panicked (leaveC 5 line))) ∧ On (· = be) w w' := by
  obtain ⟨es0, clock0, hmap⟩ := hE.isMap
  have hneb : br ≠ be := fun e => by
    subst e
    simp [World.cell?, hmap] at hc
  have HW := hide hw
  have HC := hide hc
  have HM := hide hm
  have HE := hide hE
  have HZ := hide hz
  have HNB : Hid (∀ k (_ : k < es.length) b off, z = some ⟨b, off, none⟩ → b ≠ be) := fun k hk b off e e' => by
    subst e'
    obtain ⟨b', o', e2, h1, _⟩ := hz k hk
    rw [e] at e2
    obtain ⟨rfl, rfl⟩ : b = b' ∧ off = o' := by simpa using e2
    simp [World.cell?, hmap] at h1
  have hlb := cell_lt hc
  clear hw hc hm hE hz hmap
  go_enter Tryz.func133, Tryz.ntmps133
  go_wp2_with fail
  go_loopw [5, 8] (fun _ q8 wr => ∃ k : Nat, k ≤ es.length ∧ q8 = .int .i64 k ∧ Hid (EI wr be (n + k) (seen ++ es.take k)) ∧ Hid (On (· = be) w wr) ∧ Hid (∀ j (hj : j < es.length), j < k → es[j] ∉ seen ++ es.take j)) (fun _ q8 _ => es.length - (intOf q8).toNat)
  case atStart => exact ⟨0, Nat.zero_le _, rfl, by simpa using HE, On.refl _ _, fun j hj h => by omega⟩
  case round =>
    obtain ⟨k, hk, rfl, HEk, HO, HNO⟩ := hrel
    rename World => wr
    by_cases hlt : k < es.length
    · have hki : (k : Int) < (es.length : Int) := by omega
      obtain ⟨b, off, rfl, z0, z1⟩ := HZ.out k hlt
      have hbe := HNB.out k hlt b off rfl
      have y0 := HO.out.cell hbe z0
      have y1 := HO.out.cell hbe z1
      have m0 := HO.out.cell hneb HC.out
      have m4 := HO.out.cell hneb HM.out
      have hly := cell_lt y0
      have hlm := cell_lt m0
      obtain ⟨x, y, hxy⟩ : ∃ x y, es[k] = (x, y) := ⟨_, _, rfl⟩
      rw [hxy] at y0 y1
      have HXY := hide hxy
      have hwf : Wf2 (x, y) := by rw [← hxy]; exact HW.out _ (List.getElem_mem hlt)
      have hA := (Below.refl wr.heap.size wr).alloc (Nat.le_refl _) (.cells #[.int .i64 x, .int .i64 y] 75)
      have HEA := hide (HEk.out.of_block (hA.block be HEk.out.lt))
      have a0 := cell_later' hA m0
      have a4 := cell_later' hA m4
      have x0 := new_cell wr #[.int .i64 x, .int .i64 y] 75 0 _ rfl
      have x1 := new_cell wr #[.int .i64 x, .int .i64 y] 75 1 _ rfl
      have HOA := hide (HO.out.trans (On.of_below hA))
      have hlk := HEA.out.look x y hwf
      have hlkd := (HEA.out.of_block (w' := (wr.alloc (.cells #[.int .i64 x, .int .i64 y] 75)).drew) rfl).look x y hwf
      have hszA : wr.heap.size < (wr.alloc (.cells #[.int .i64 x, .int .i64 y] 75)).heap.size := by simp
      have hlmA : br < (wr.alloc (.cells #[.int .i64 x, .int .i64 y] 75)).heap.size := by simp; omega
      clear z0 z1 m0 m4 hxy hA hbe
      go_upto_region 3 with fail
      clear y0 y1 hly
      generalize wr.alloc (.cells #[.int .i64 x, .int .i64 y] 75) = w1 at *
      by_cases hin : (x, y) ∈ seen ++ es.take k
      · have HR := hide (clashS_hit es seen k hlt (by rw [HXY.out]; exact hin))
        have hv : seenE (seen ++ es.take k) (x, y) = 1 := if_pos hin
        rw [hv] at hlk hlkd
        have HOD := hide (HOA.out.trans (On.of_below ((Below.refl w1.heap.size w1).drew)))
        clear hin hv
        go_region_law (first | (go_simp; go_at_call 63; refine (want_noR br 5 line _ (by first | exact a0 | exact (show w1.drew.cell? ⟨br, 0, none⟩ = some (.int .i64 line) from a0))).mono ?_; rintro e w2 ⟨rfl, hw⟩; subst hw; refine dieR Tryz.prog w1 ?_ ?_; exact ⟨rfl, .inr ⟨HR.out, rfl⟩, HOD.out⟩))
        all_goals trivial
      · have hv : seenE (seen ++ es.take k) (x, y) = 0 := if_neg hin
        rw [hv] at hlk hlkd
        have HOD := hide (HOA.out.trans (On.of_below ((Below.refl w1.heap.size w1).drew)))
        have HED := hide (HEA.out.of_block (w' := w1.drew) rfl)
        go_cut [] from 21 (fun wx => wx = w1.drew)
        case first =>
          clear hin hv
          go_region_law (first | (go_simp; go_at_call 63; refine (want_ok _ _ _).mono ?_; rintro e w2 ⟨⟨v2, rfl⟩, hw⟩; subst hw))
          all_goals
            go_wp2_with fail
            go_meet
            case rel => rfl
        case rest =>
          subst hcut
          have HNO2 : Hid (∀ j (hj : j < es.length), j < k + 1 → es[j] ∉ seen ++ es.take j) := fun j hj hjk => by
            by_cases e : j = k
            · subst e; rw [HXY.out]; exact hin
            · exact HNO.out j hj (by omega)
          have HTK := hide (show seen ++ es.take (k + 1) = seen ++ es.take k ++ [(x, y)] by rw [List.take_succ_eq_append_getElem hlt, HXY.out, List.append_assoc])
          obtain ⟨v0, st, wE, wF, hE, hlE, hsE, hEF, hgF⟩ := (HED.out.of_block (w' := w1.drew.drew) rfl).bump (by unfold maxLen; omega) x y hwf hin
          have hlkdd := (HED.out.of_block (w' := w1.drew.drew) rfl).look x y hwf
          rw [hv] at hlkdd
          have HEF := hide hEF
          have HOF := hide ((HOD.out.trans (On.of_below ((Below.refl w1.drew.heap.size w1.drew).drew))).trans (On.of_grown hgF (fun b e => (Option.some.inj e).symm)))
          have hw1 : IntKind.i64.wrap 1 = 1 := by decide
          clear hin hv hEF hgF hlk hlkd
          go_upto_region 4 with fail
          go_region_law (fail)
          all_goals
            go_wp2_with fail
            go_roundw
            case rel => exact ⟨k + 1, by omega, by go_num, (by show EI _ _ _ _; rw [HTK.out]; exact HEF.out), HOF, HNO2⟩
            case measure => simp [intOf]; omega
    · obtain rfl : k = es.length := by omega
      have HR := hide (clashS_none es seen (fun j hj => HNO.out j hj hj))
      have hE' := HEk.out
      rw [List.take_length] at hE'
      have HE' := hide hE'
      clear hE' hlt hk
      go_wp2_with fail
      go_end0
      exact ⟨.inl ⟨HR.out, ⟨_, rfl⟩, HE'.out⟩, HO.out⟩
end Go.Proofs.YtcodpnkfpmjleaaGreatDoor

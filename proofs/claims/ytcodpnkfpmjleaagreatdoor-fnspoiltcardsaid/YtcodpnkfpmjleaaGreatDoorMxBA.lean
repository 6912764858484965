/- errors.As at a text's error. Own work, along the lines of the guide's worked toy at a pointer. -/
import Derived.Test.YtcodpnkfpmjleaaGreatDoorMxAZ
import Derived.WalkKit
import Derived.LaidEql
import Derived.Stop.Asserts
import Derived.RowKitTokens
import Derived.Test.YtcodpnkfpmjleaaGreatDoorRiV
import Derived.Test.YtcodpnkfpmjleaaGreatDoorMxAJ
namespace Go.Proofs.YtcodpnkfpmjleaaGreatDoor
open Go.RowKit Go.Extern.Stop Go.Stop Go.Extern
set_option maxHeartbeats 4000000
set_option maxRecDepth 100000

theorem as_nil (t : Value) (w : World) :
    Calls Tryz.prog 28 #[.nilIface, t] w fun e w' => e = .returned (.bool false) ∧ w' = w := by
  go_enter Tryz.func28, Tryz.ntmps28
  go_wp2_with fail
  go_ret
  exact ⟨rfl, rfl⟩
/-- What a reflected type is. -/
abbrev rtH (T : Nat) : Value := .pointer (some ⟨7, T, none⟩)
abbrev rtI (T : Nat) : Value := .iface 197 (.agg #[rtH T])
theorem asValueOf (t : Addr) (w : World) : (ReflectliteValue.unpack (.iface 83 (.pointer (some t)))).run Tryz.prog w
    = .ok (.agg #[rtH 83, .pointer (some ⟨w.heap.size, 0, none⟩), .int .u64 150]) (w.alloc (.cells #[.pointer (some t)] 83)) := by kernel_rfl
theorem asType (a : Addr) (w : World) : (ReflectliteValue.methodAny (ReflectliteValue.valueError "reflectlite.Value.Type" 0) (fun t _ _ _ => ReflectliteType.toType t) #[.agg #[rtH 83, .pointer (some a), .int .u64 150]]).run Tryz.prog w
    = .ok (rtI 83) w := by kernel_rfl
theorem asMethodKind (h : Value) (w : World) : (Go.method 403 197 (.agg #[h]) "Kind").run Tryz.prog w = .ok (191, h) w := by kernel_rfl
theorem asKindP (w : World) : ((ReflectliteType.abiMethod fun t => (fun a : Nat => Value.int IntKind.u8 (a : Int)) <$> Rtype.kind t) #[rtH 83]).run Tryz.prog w = .ok (.int .u8 22) w := by kernel_rfl
theorem asKindS (w : World) : ((ReflectliteType.abiMethod fun t => (fun a : Nat => Value.int IntKind.u8 (a : Int)) <$> Rtype.kind t) #[rtH 81]).run Tryz.prog w = .ok (.int .u8 25) w := by kernel_rfl
theorem asRlm (z : Sem Value) (f : TypeId → Addr → Nat → Nat → Sem Value) (v : Value) :
    ReflectliteValue.method z f #[v] = (do match ← ReflectliteValue.parts v with | none => z | some (t, a, fl) => f t a fl (fl % 32)) := rfl
theorem asPartsP (a : Addr) (w : World) : (ReflectliteValue.parts (.agg #[rtH 83, .pointer (some a), .int .u64 150])).run Tryz.prog w = .ok (some (83, a, 150)) w := by kernel_rfl
theorem asIsNil (a p : Addr) (W : World) (ha : W.cell? a = some (.pointer (some p))) :
    (ReflectliteValue.method (ReflectliteValue.valueError "reflectlite.Value.IsNil" 0) ReflectliteValue.isNil #[.agg #[rtH 83, .pointer (some a), .int .u64 150]]).run Tryz.prog W = .ok (.bool false) W := by
  rw [asRlm]
  simp only [Sem.run_bind, asPartsP, Result.andThen]
  simp [ReflectliteValue.isNil, loadVar, isAgg, underlying, Tryz.underlying83, ha, Result.andThen]
theorem asMethodElem (h : Value) (w : World) : (Go.method 403 197 (.agg #[h]) "Elem").run Tryz.prog w = .ok (211, .agg #[h]) w := by kernel_rfl
theorem asMethodImpl (h : Value) (w : World) : (Go.method 403 197 (.agg #[h]) "Implements").run Tryz.prog w = .ok (212, .agg #[h]) w := by kernel_rfl
theorem asMethodAsg (h : Value) (w : World) : (Go.method 403 197 (.agg #[h]) "AssignableTo").run Tryz.prog w = .ok (209, .agg #[h]) w := by kernel_rfl
theorem asElem (w : World) : (ReflectliteType.method ReflectliteType.elem #[.agg #[rtH 83]]).run Tryz.prog w = .ok (rtI 81) w := by kernel_rfl
theorem asImpl (w : World) : (ReflectliteType.relation "Implements" ReflectliteType.implements_ #[.agg #[rtH 81], rtI 77]).run Tryz.prog w = .ok (.bool true) w := by kernel_rfl
theorem asTypeOf (v : Value) (w : World) : (ReflectliteType.typeOf #[.iface 81 v]).run Tryz.prog w = .ok (rtI 81) w := by kernel_rfl
theorem asAsg (w : World) : (ReflectliteType.relation "AssignableTo" ReflectliteType.assignableTo #[.agg #[rtH 81], rtI 81]).run Tryz.prog w = .ok (.bool true) w := by kernel_rfl
theorem asValueOfS (c l : Int) (w : World) : (ReflectliteValue.unpack (.iface 81 (.agg #[.int .i64 c, .int .i64 l]))).run Tryz.prog w
    = .ok (.agg #[rtH 81, .pointer (some ⟨w.heap.size, 0, none⟩), .int .u64 153]) (w.alloc (.cells #[.int .i64 c, .int .i64 l] 81)) := by kernel_rfl
theorem asElemOf (w : World) : (Rtype.elem? 83).run Tryz.prog w = .ok (some 81) w := by kernel_rfl
theorem asMk (p : Addr) (w : World) : (ReflectliteValue.mk 81 p ReflectliteValue.flagAddr).run Tryz.prog w = .ok (.agg #[rtH 81, .pointer (some p), .int .u64 409]) w := by kernel_rfl
theorem asElemV (a p : Addr) (W : World) (ha : W.cell? a = some (.pointer (some p))) :
    (ReflectliteValue.method (ReflectliteValue.valueError "reflectlite.Value.Elem" 0) ReflectliteValue.elem #[.agg #[rtH 83, .pointer (some a), .int .u64 150]]).run Tryz.prog W
      = .ok (.agg #[rtH 81, .pointer (some p), .int .u64 409]) W := by
  rw [asRlm]
  simp only [Sem.run_bind, asPartsP, Result.andThen]
  simp [ReflectliteValue.elem, loadVar, isAgg, underlying, Tryz.underlying83, ha, Result.andThen, asElemOf, asMk]
theorem asRls (v x : Value) : ReflectliteValue.set #[v, x] = (do
    let (some (dst, a, fl), some (src, b, _)) := (← ReflectliteValue.parts v, ← ReflectliteValue.parts x)
      | unsupported (.noEntry "extern/(internal/reflectlite.Value).Set.zeroValue")
    if fl / ReflectliteValue.flagAddr % 2 == 0 then unsupported (.noEntry "extern/(internal/reflectlite.Value).Set.unaddressable")
    let val ← loadVar src b
    if ← Rtype.directlyAssignable dst src then storeVar dst a val
    else if ← Rtype.implements dst src then
      if (← Rtype.kind src) == 20 then
        match val with
        | .nilIface => unsupported (.noEntry "extern/reflectlite: a nil value of one interface type handed on as a value of another")
        | _ => storeVar dst a val
      else storeVar dst a (.iface src val)
    else panicString ("reflectlite.Set: value of type " ++ (← Rtype.spelt src) ++ " is not assignable to type " ++ (← Rtype.spelt dst))
    pure (.tuple #[])) := rfl
theorem asPartsA (a : Addr) (w : World) : (ReflectliteValue.parts (.agg #[rtH 81, .pointer (some a), .int .u64 409])).run Tryz.prog w = .ok (some (81, a, 409)) w := by kernel_rfl
theorem asPartsS (a : Addr) (w : World) : (ReflectliteValue.parts (.agg #[rtH 81, .pointer (some a), .int .u64 153])).run Tryz.prog w = .ok (some (81, a, 153)) w := by kernel_rfl
theorem asDirect (w : World) : (Rtype.directlyAssignable 81 81).run Tryz.prog w = .ok true w := by kernel_rfl
theorem asSize (w : World) : (sizeOf 81).run Tryz.prog w = .ok 2 w := by kernel_rfl
theorem asSet (tb b : Nat) (c l : Int) (o0 o1 : Value) (W : World) (hb0 : W.cell? ⟨b, 0, none⟩ = some (.int .i64 c)) (hb1 : W.cell? ⟨b, 1, none⟩ = some (.int .i64 l)) (ht0 : W.cell? ⟨tb, 0, none⟩ = some o0) (ht1 : W.cell? ⟨tb, 1, none⟩ = some o1) (hf : ∀ o, W.frozen? ⟨tb, o, none⟩ = false) :
    (ReflectliteValue.set #[.agg #[rtH 81, .pointer (some ⟨tb, 0, none⟩), .int .u64 409], .agg #[rtH 81, .pointer (some ⟨b, 0, none⟩), .int .u64 153]]).run Tryz.prog W
      = .ok (.tuple #[]) ((W.setCell ⟨tb, 0, none⟩ (.int .i64 c)).setCell ⟨tb, 1, none⟩ (.int .i64 l)) := by
  rw [asRls]
  simp only [Sem.run_bind, asPartsA, asPartsS, Result.andThen]
  have hlc : (loadCells ⟨b, 0, none⟩ 2).run Tryz.prog W = .ok #[.int .i64 c, .int .i64 l] W := by simp [loadCells, hb0, hb1, Addr.add, go_sem]
  simp [ReflectliteValue.flagAddr, loadVar, isAgg, underlying, Tryz.underlying81, hlc, Result.andThen, asDirect, storeVar, Value.cells, storeCells, Addr.add]
  have s1 : (store ⟨tb, 0, none⟩ (.int .i64 c)).run Tryz.prog W = .ok () (W.setCell ⟨tb, 0, none⟩ (.int .i64 c)) := by
    rw [run_store Tryz.prog W ⟨tb, 0, none⟩ _ _ (by rfl)]
    simp [ht0, hf]
  have s2 : (store ⟨tb, 1, none⟩ (.int .i64 l)).run Tryz.prog (W.setCell ⟨tb, 0, none⟩ (.int .i64 c)) = .ok () ((W.setCell ⟨tb, 0, none⟩ (.int .i64 c)).setCell ⟨tb, 1, none⟩ (.int .i64 l)) := by
    rw [run_store Tryz.prog _ ⟨tb, 1, none⟩ _ _ (by rfl)]
    simp [go_sem, ht1, hf]
  rw [s1]
  simp only
  rw [s2]
end Go.Proofs.YtcodpnkfpmjleaaGreatDoor

/- errors.As where it hits. Own work. -/
namespace Go.Proofs.YtcodpnkfpmjleaaGreatDoor
open Go.RowKit Go.Extern.Stop Go.Stop Go.Extern
set_option maxHeartbeats 4000000
set_option maxRecDepth 100000

theorem as_hit (c l : Int) (tb : Nat) (o0 o1 : Value) (w : World) (hg : w.cell? ⟨0, 0, none⟩ = some (rtI 77)) (ht0 : w.cell? ⟨tb, 0, none⟩ = some o0) (ht1 : w.cell? ⟨tb, 1, none⟩ = some o1) (hf0 : ∀ o, w.frozen? ⟨tb, o, none⟩ = false) :
    Calls Tryz.prog 28 #[errV c l, .iface 83 (.pointer (some ⟨tb, 0, none⟩))] w fun ev w' => ev = .returned (.bool true) ∧ w'.cell? ⟨tb, 0, none⟩ = some (.int .i64 c) ∧ w'.cell? ⟨tb, 1, none⟩ = some (.int .i64 l) ∧ On (· = tb) w w' := by
  have h6 := @run_callFunc_extern Tryz.prog 67 _ (fun args => ReflectliteValue.unpack (args.getD 0 (.tuple #[]))) Tryz.func67 (by kernel_rfl) (by kernel_rfl) (by kernel_rfl) (by kernel_rfl)
  have h7 := @run_callFunc_extern Tryz.prog 68 _ (ReflectliteValue.methodAny (ReflectliteValue.valueError "reflectlite.Value.Type" 0) (fun t _ _ _ => ReflectliteType.toType t)) Tryz.func68 (by kernel_rfl) (by kernel_rfl) (by kernel_rfl) (by kernel_rfl)
  have h8 := @run_callFunc_extern Tryz.prog 69 _ (ReflectliteValue.method (ReflectliteValue.valueError "reflectlite.Value.IsNil" 0) ReflectliteValue.isNil) Tryz.func69 (by kernel_rfl) (by kernel_rfl) (by kernel_rfl) (by kernel_rfl)
  have h27 := @run_callFunc_extern Tryz.prog 191 _ (ReflectliteType.abiMethod fun t => do pure (.int .u8 (← Rtype.kind t))) Tryz.func191 (by kernel_rfl) (by kernel_rfl) (by kernel_rfl) (by kernel_rfl)
  have h37 := @run_callFunc_extern Tryz.prog 211 _ (ReflectliteType.method ReflectliteType.elem) Tryz.func211 (by kernel_rfl) (by kernel_rfl) (by kernel_rfl) (by kernel_rfl)
  have h38 := @run_callFunc_extern Tryz.prog 212 _ (ReflectliteType.relation "Implements" ReflectliteType.implements_) Tryz.func212 (by kernel_rfl) (by kernel_rfl) (by kernel_rfl) (by kernel_rfl)
  have h10 := @run_callFunc_extern Tryz.prog 104 _ ReflectliteType.typeOf Tryz.func104 (by kernel_rfl) (by kernel_rfl) (by kernel_rfl) (by kernel_rfl)
  have h35 := @run_callFunc_extern Tryz.prog 209 _ (ReflectliteType.relation "AssignableTo" ReflectliteType.assignableTo) Tryz.func209 (by kernel_rfl) (by kernel_rfl) (by kernel_rfl) (by kernel_rfl)
  have h11 := @run_callFunc_extern Tryz.prog 105 _ (ReflectliteValue.method (ReflectliteValue.valueError "reflectlite.Value.Elem" 0) ReflectliteValue.elem) Tryz.func105 (by kernel_rfl) (by kernel_rfl) (by kernel_rfl) (by kernel_rfl)
  have h12 := @run_callFunc_extern Tryz.prog 106 _ ReflectliteValue.set Tryz.func106 (by kernel_rfl) (by kernel_rfl) (by kernel_rfl) (by kernel_rfl)
  have tO := asTypeOf
  have mA := asMethodAsg
  have a25 := asAsg
  have v25 := asValueOfS
  have f6 := asValueOf
  have f7 := asType
  have mK := asMethodKind
  have mE := asMethodElem
  have mI := asMethodImpl
  have k27 := asKindP
  have k25 := asKindS
  have e27 := asElem
  have i25 := asImpl
  have hlg := cell_lt hg
  have hlt := cell_lt ht0
  obtain ⟨w1, hw1⟩ : ∃ w1, w.alloc (.cells #[.pointer (some ⟨tb, 0, none⟩)] 83) = w1 := ⟨_, rfl⟩
  obtain ⟨w2, hw2⟩ : ∃ w2, w1.alloc (.cells #[rtH 83, .pointer (some ⟨w.heap.size, 0, none⟩), .int .u64 150] 139) = w2 := ⟨_, rfl⟩
  obtain ⟨w3, hw3⟩ : ∃ w3, w2.alloc (.cells #[rtH 83, .pointer (some ⟨w.heap.size, 0, none⟩), .int .u64 150] 139) = w3 := ⟨_, rfl⟩
  obtain ⟨w4, hw4⟩ : ∃ w4, w3.alloc (.cells #[.int .i64 c, .int .i64 l] 81) = w4 := ⟨_, rfl⟩
  have hb1 : Below w.heap.size w w1 := by rw [← hw1]; exact bS0 _ _
  have hb12 : Below w1.heap.size w1 w2 := by rw [← hw2]; exact bS0 _ _
  have hb23 : Below w2.heap.size w2 w3 := by rw [← hw3]; exact bS0 _ _
  have hb34 : Below w3.heap.size w3 w4 := by rw [← hw4]; exact bS0 _ _
  have hb2 := chnB hb1 hb12
  have hb3 := chnB hb2 hb23
  have hb4 := chnB hb3 hb34
  have hp1 : w1.cell? ⟨w.heap.size, 0, none⟩ = some (.pointer (some ⟨tb, 0, none⟩)) := by rw [← hw1]; exact new_cell w #[.pointer (some ⟨tb, 0, none⟩)] _ 0 _ rfl
  have n8 := asIsNil ⟨w.heap.size, 0, none⟩ ⟨tb, 0, none⟩ w2 (cell_later' hb12 hp1)
  have hg2 := cell_later' hb2 hg
  have el := asElemV ⟨w.heap.size, 0, none⟩ ⟨tb, 0, none⟩ w3 (cell_later' hb23 (cell_later' hb12 hp1))
  have hs1 : w1.heap.size = w.heap.size + 1 := by rw [← hw1]; simp
  have hs2 : w2.heap.size = w.heap.size + 1 + 1 := by rw [← hw2]; simp [hs1]
  have hs3 : w3.heap.size = w.heap.size + 1 + 1 + 1 := by rw [← hw3]; simp [hs2]
  have st := asSet tb (w.heap.size + 1 + 1 + 1) c l o0 o1 w4 (by rw [← hw4, ← hs3]; exact new_cell w3 #[.int .i64 c, .int .i64 l] _ 0 _ rfl) (by rw [← hw4, ← hs3]; exact new_cell w3 #[.int .i64 c, .int .i64 l] _ 1 _ rfl) (cell_later' hb4 ht0) (cell_later' hb4 ht1) (fun o => by rw [hb4.frozen (p := ⟨tb, o, none⟩) hlt]; exact hf0 o)
  have HFIN : Hid (On (· = tb) w ((w4.setCell ⟨tb, 0, none⟩ (.int .i64 c)).setCell ⟨tb, 1, none⟩ (.int .i64 l))) := hide (((On.of_below (S := (· = tb)) hb4).trans (On.set w4 (S := (· = tb)) (b := tb) (o := 0) rfl _)).trans (On.set _ (S := (· = tb)) (b := tb) (o := 1) rfl _))
  have HT0 := hide (cell_later' hb4 ht0)
  have HT1 := hide (cell_later' hb4 ht1)
  simp only [rtH, rtI] at *
  unfold errV
  subst hw4
  subst hw3
  subst hw2
  subst hw1
  clear hb1 hb12 hb23 hb34 hb2 hb3 hb4 hp1 hs1 hs2 hs3 hg ht0 ht1 hf0
  go_enter Tryz.func28, Tryz.ntmps28
  go_wp2
  refine wp_loop_rounds 1 ?_
  rw [rounds_succ]
  go_wp2
  go_ret
  refine ⟨rfl, ?_, ?_, HFIN.out⟩
  · have := HT0.out; simp [go_sem, this]
  · have := HT1.out; simp [go_sem, this]
end Go.Proofs.YtcodpnkfpmjleaaGreatDoor

/- impl.ReadNet. Own work. -/
namespace Go.Proofs.YtcodpnkfpmjleaaGreatDoor
open Go.RowKit Go.Extern.Stop Go.Stop Go.Extern
set_option maxHeartbeats 4000000
set_option maxRecDepth 100000

def rnO (w : World) : World := w.alloc (.cells #[.int .i64 0, .int .i64 0, .slice none 0 0, .slice none 0 0] 30)
theorem rnO_size (w : World) : (rnO w).heap.size = w.heap.size + 1 := by simp [rnO]
theorem rnO_box (w : World) : TBx w (rnO w) := by
  have h := box_cells (blk_new (W := w) (o := .cells #[.int .i64 0, .int .i64 0, .slice none 0 0, .slice none 0 0] 30) rfl)
  exact ⟨h.1 0 _ rfl, h.1 1 _ rfl, h.1 2 _ rfl, h.1 3 _ rfl, h.2⟩
theorem readG_zero (N : Nt) (i : Int) (ls : List Bl) (h : (readG N i ls).1 = 0) : (readG N i ls).2.1 = 0 := by
  induction ls generalizing N i with
  | nil =>
    rw [readG] at h ⊢
    unfold wholeR at h ⊢
    split at h <;> rename_i h1
    · simp at h
    · rw [if_neg h1]
      split at h <;> rename_i h2
      · simp at h
      · rw [if_neg h2]
  | cons l ls ih =>
    rw [readG] at h ⊢
    split at h <;> rename_i h1
    · exact absurd h h1
    · rw [if_neg h1]; exact ih _ _ h
theorem told_zero {t : ByteArray} (h : (toldP t).1 = 0) : toldP t = (0, 0, (toldP t).2.2) := by
  have h2 : (toldP t).2.1 = 0 := by
    unfold toldP at *
    split at h <;> rename_i h1
    · simp at h
    · rw [if_neg h1]; exact readG_zero _ _ _ h
  refine Prod.ext h (Prod.ext h2 rfl)
theorem implReadNet_any (t : Bl) (w : World) (hl : t.length ≤ 1048576) (hM : MX w) (hg : w.cell? ⟨0, 0, none⟩ = some (rtI 77)) :
    Calls Tryz.prog 8 #[.string (sb t)] w fun e w' => ReadPost (toldP (sb t)) w e w' := by
  have hA : Below w.heap.size w (rnO w) := bS0 _ _
  have HT := hide (rnO_box w)
  have HCL := hide (readText_any t (rnO w) hl (hM.later hA))
  have HA := hide hA
  have HG := hide (cell_later' hA hg)
  have HSZ := hide (rnO_size w)
  clear hA hM hg
  go_enter Tryz.func8, Tryz.ntmps8
  go_wp2_with fail
  refine HCL.out.mono ?_
  rintro e w2 ⟨pv, jv, ⟨z1, n1, c1, rfl⟩, ⟨z2, n2, c2, rfl⟩, hb2, hor⟩
  clear HCL
  have hb3 := bS0 w2 (.cells #[.slice z1 n1 c1, .slice z2 n2 c2] 26)
  have hb4 := bS0 (w2.alloc (.cells #[.slice z1 n1 c1, .slice z2 n2 c2] 26)) (.cells #[.int .i64 0, .int .i64 0] 81)
  have hb24 := chnB hb3 hb4
  have hb14 := chnB hb2 hb24
  have HB4 := hide (chnB HA.out hb14)
  have HT4 := hide (HT.out.later hb14)
  have HG4 := hide (cell_later' hb14 HG.out)
  have HB24 := hide hb24
  have m0 : _ = some (Value.slice z1 n1 c1) := cell_later' hb4 (new_cell w2 #[.slice z1 n1 c1, .slice z2 n2 c2] 26 0 _ rfl)
  have m1 : _ = some (Value.slice z2 n2 c2) := cell_later' hb4 (new_cell w2 #[.slice z1 n1 c1, .slice z2 n2 c2] 26 1 _ rfl)
  have hE := box_cells (blk_new (W := w2.alloc (.cells #[.slice z1 n1 c1, .slice z2 n2 c2] 26)) (o := .cells #[.int .i64 0, .int .i64 0] 81) (k := w2.heap.size + 1) (by simp))
  have e0 := hE.1 0 _ rfl
  have e1 := hE.1 1 _ rfl
  have HEF := hide hE.2
  have hs2 : w.heap.size + 1 ≤ w2.heap.size := by rw [← HSZ.out]; exact hb2.size
  rcases hor with ⟨h0, rfl, js, hown, hkr, hmp⟩ | ⟨h0, rfl, hn⟩
  · have HOWN := hide (owns_later' hown hb24)
    have HKR := hide (hkr.later hb24)
    have HMP := hide hmp
    clear hown hkr hmp hb2 hb3 hb4 hb24 hb14 hE HEF e0 e1
    go_upto_region 3 with fail
    generalize (w2.alloc (.cells #[.slice z1 n1 c1, .slice z2 n2 c2] 26)).alloc (.cells #[.int .i64 0, .int .i64 0] 81) = w4 at *
    have ha := as_nil (.iface 83 (.pointer (some ⟨w2.heap.size + 1, 0, none⟩))) w4
    have t0 := HT4.out.c0
    have t1 := HT4.out.c1
    have t2 := HT4.out.c2
    have t3 := HT4.out.c3
    have p0 := HT4.out.f 0
    have p1 := HT4.out.f 1
    have p2 := HT4.out.f 2
    have p3 := HT4.out.f 3
    have hlt := cell_lt t0
    have hlm := cell_lt m0
    have hm : Mid w.heap.size (w.heap.size + 1) w4 ((((w4.setCell ⟨w.heap.size, 0, none⟩ (.int .i64 0)).setCell ⟨w.heap.size, 1, none⟩ (.int .i64 0)).setCell ⟨w.heap.size, 2, none⟩ (.slice z1 n1 c1)).setCell ⟨w.heap.size, 3, none⟩ (.slice z2 n2 c2)) := ((((Mid.refl _ _ _).setCell (Nat.le_refl _) (by omega) _).setCell (Nat.le_refl _) (by omega) _).setCell (Nat.le_refl _) (by omega) _).setCell (Nat.le_refl _) (by omega) _
    have HOP := hide (owns_mono (owns_mid HOWN.out hm (by rw [HSZ.out]; omega)) (show w.heap.size ≤ _ by rw [HSZ.out]; omega))
    have HKR2 := hide (KR.low_base (HKR.out.midLow hm (by rw [HSZ.out]; omega)) (show w.heap.size ≤ _ by rw [HSZ.out]; omega))
    have HBF := hide ((((HB4.out.setCell (p := ⟨w.heap.size, 0, none⟩) (Nat.le_refl _) (.int .i64 0)).setCell (p := ⟨w.heap.size, 1, none⟩) (Nat.le_refl _) (.int .i64 0)).setCell (p := ⟨w.heap.size, 2, none⟩) (Nat.le_refl _) (.slice z1 n1 c1)).setCell (p := ⟨w.heap.size, 3, none⟩) (Nat.le_refl _) (.slice z2 n2 c2))
    have HRR := hide (show toldP (sb t) = (0, 0, (toldP (sb t)).2.2) from told_zero h0)
    clear hm
    have HAS := hide ha
    clear ha
    go_wp2_with fail
    refine HAS.out.mono ?_
    rintro e w5 ⟨rfl, rfl⟩
    clear HAS h0
    go_wp2_with fail
    exact bodyPost_ret (v := .agg #[.int .i64 0, .int .i64 0, .slice z1 n1 c1, .slice z2 n2 c2]) (by simp [results, Tryz.results8, go_sem, t0, t1, t2, t3]) rfl (by rw [HRR.out]; exact ⟨_, _, js, rfl, HOP.out, HKR2.out, HMP.out, HBF.out⟩)
  · clear hb2 hb3 hb4 hb24 hb14 hE m0 m1
    go_upto_region 3 with fail
    generalize (w2.alloc (.cells #[.slice z1 n1 c1, .slice z2 n2 c2] 26)).alloc (.cells #[.int .i64 0, .int .i64 0] 81) = w4 at *
    obtain ⟨c, l, N, hR⟩ : ∃ c l N, toldP (sb t) = (c, l, N) := ⟨_, _, _, rfl⟩
    rw [hR] at hn ⊢
    dsimp only at hn ⊢
    subst hn
    have HRR := hide hR
    clear hR
    have HAS := hide (as_hit c l (w2.heap.size + 1) _ _ w4 HG4.out e0 e1 HEF.out)
    have hle := cell_lt e0
    clear HEF e0 e1 HG4 HG h0
    go_wp2_with fail
    refine HAS.out.mono ?_
    rintro e w5 ⟨rfl, e0, e1, hon⟩
    have HB5 := hide (hon.below HB4.out (fun b e => by omega) HB4.out.size)
    have hle := cell_lt e0
    have hbx : w.heap.size ≠ w2.heap.size + 1 := by omega
    have t0 := hon.cell hbx HT4.out.c0
    have t1 := hon.cell hbx HT4.out.c1
    have t2 := hon.cell hbx HT4.out.c2
    have t3 := hon.cell hbx HT4.out.c3
    have hf : ∀ o, w5.frozen? ⟨w.heap.size, o, none⟩ = false := fun o => (hon.frozen (cell_lt HT4.out.c0) hbx).trans (HT4.out.f o)
    have p0 := hf 0
    have p1 := hf 1
    have p2 := hf 2
    have p3 := hf 3
    have hlt := cell_lt t0
    have HBF := hide ((((HB5.out.setCell (p := ⟨w.heap.size, 0, none⟩) (Nat.le_refl _) (.int .i64 c)).setCell (p := ⟨w.heap.size, 1, none⟩) (Nat.le_refl _) (.int .i64 l)).setCell (p := ⟨w.heap.size, 2, none⟩) (Nat.le_refl _) (.slice none 0 0)).setCell (p := ⟨w.heap.size, 3, none⟩) (Nat.le_refl _) (.slice none 0 0))
    clear HAS hon hf
    go_wp2_with fail
    exact bodyPost_ret (v := .agg #[.int .i64 c, .int .i64 l, .slice none 0 0, .slice none 0 0]) (by simp [results, Tryz.results8, go_sem, t0, t1, t2, t3]) rfl (by rw [HRR.out]; exact readPost_none HBF.out)
end Go.Proofs.YtcodpnkfpmjleaaGreatDoor

/- impl.over, at every right joint. Own work. -/
import Derived.Test.YteapmddadieohaaMxAG
import Derived.Test.YteapmddadieohaaAcB
import Derived.Test.YteapmddadieohaaDrS
import Derived.Test.YteapmddadieohaaMxAI
import Derived.Deep.RegionHeld3
import Derived.Deep.RegionWith
namespace Go.Proofs.Yteapmddadieohaa
open Go.RowKit
set_option maxHeartbeats 1000000

theorem over_any (n : Nat) (j : Jt) (a : Option Addr) (cap i : Nat) (w : World) (h3 : jb3 n j = false) (hi : i < j.ends.length) (h : EndsAt w a j.ends) :
    Calls Try.prog 68 #[.agg #[.int .i64 j.kind, .string j.name, .slice a j.ends.length cap], .int .i64 i] w fun e w' =>
    ∃ v, e = .returned v ∧ NewEnds w.heap.size w' v (acr j i) ∧ Below w.heap.size w w' := by
  obtain ⟨hk, hl⟩ := jb3_len h3
  clear h3
  obtain ⟨kind, name, ends⟩ := j
  simp only at hk hl hi h
  have hkk : kind = 1 ∨ kind = 2 ∨ kind = 3 ∨ kind = 4 := by omega
  rcases hkk with rfl | rfl | rfl | rfl
  · match ends, (show ends.length = 1 by omega) with
    | [e0], _ =>
      have hii : i = 0 := by simp at hi; omega
      subst hii
      exact over_1_0 name a cap e0 w h
  · match ends, (show ends.length = 2 by omega) with
    | [e0, e1], _ =>
      have hii : i = 0 ∨ i = 1 := by simp at hi; omega
      rcases hii with rfl | rfl
      · exact over_2_0 name a cap e0 e1 w h
      · exact over_2_1 name a cap e0 e1 w h
  · match ends, (show ends.length = 3 by omega) with
    | [e0, e1, e2], _ =>
      have hii : i = 0 ∨ i = 1 ∨ i = 2 := by simp at hi; omega
      rcases hii with rfl | rfl | rfl
      · exact over_3_0 name a cap e0 e1 e2 w h
      · exact over_3_1 name a cap e0 e1 e2 w h
      · exact over_3_2 name a cap e0 e1 e2 w h
  · match ends, (show ends.length = 4 by omega) with
    | [e0, e1, e2, e3], _ =>
      have hii : i = 0 ∨ i = 1 ∨ i = 2 ∨ i = 3 := by simp at hi; omega
      rcases hii with rfl | rfl | rfl | rfl
      · exact over_4_0 name a cap e0 e1 e2 e3 w h
      · exact over_4_1 name a cap e0 e1 e2 e3 w h
      · exact over_4_2 name a cap e0 e1 e2 e3 w h
      · exact over_4_3 name a cap e0 e1 e2 e3 w h
end Go.Proofs.Yteapmddadieohaa

/- The cursor's small methods. Own work. -/
namespace Go.Proofs.Yteapmddadieohaa
open Go.RowKit
set_option maxHeartbeats 2000000

theorem room_any (q a wy len : Int) (w : World) (hwy : wy = 1 ∨ wy = -1) (hl : 0 ≤ len ∧ len ≤ 10000000) (ha : 0 ≤ a ∧ a ≤ 10000000) :
    Calls Try.prog 52 #[.agg #[.int .i64 q, .int .i64 a, .int .i64 wy], .int .i64 len] w fun e w' => e = .returned (.int .i64 (if wy = 1 then len - a else a)) ∧ Below w.heap.size w w' := by
  obtain ⟨hl0, hl1⟩ := hl
  obtain ⟨ha0, ha1⟩ := ha
  have hbA := (Below.refl w.heap.size w).alloc (Nat.le_refl _) (.cells #[.int .i64 q, .int .i64 a, .int .i64 wy] 29)
  rcases hwy with rfl | rfl
  all_goals
    go_enter Try.func52, Try.ntmps52
    go_wp2_with fail
    go_ret
    exact ⟨ret_i (by simp), hbA⟩

theorem facing_any (q a wy : Int) (w : World) (hwy : wy = 1 ∨ wy = -1) :
    Calls Try.prog 53 #[.agg #[.int .i64 q, .int .i64 a, .int .i64 wy]] w fun e w' => e = .returned (.agg #[.int .i64 (headP q wy).1, .int .i64 (headP q wy).2]) ∧ Below w.heap.size w w' := by
  rcases hwy with rfl | rfl
  · go_enter Try.func53, Try.ntmps53
    go_wp2_with fail
    exact bodyPost_ret (v := .agg #[.int .i64 q, .int .i64 1]) (by simp [results, Try.results53, go_sem]) rfl ⟨rfl, ((Below.refl _ _).alloc (Nat.le_refl _) _).alloc (by simp) _⟩
  · go_enter Try.func53, Try.ntmps53
    go_wp2_with fail
    exact bodyPost_ret (v := .agg #[.int .i64 q, .int .i64 0]) (by simp [results, Try.results53, go_sem]) rfl ⟨rfl, ((Below.refl _ _).alloc (Nat.le_refl _) _).alloc (by simp) _⟩

theorem halt_any (p : Value) (x y z : Int) (w : World) :
    Calls Try.prog 63 #[p, .agg #[.int .i64 x, .int .i64 y, .int .i64 z]] w fun e w' => e = .returned (.tuple #[.agg #[.int .i64 0, .int .i64 0], .int .i64 1]) ∧ Below w.heap.size w w' := by
  go_enter Try.func63, Try.ntmps63
  go_wp2_with fail
  refine bodyPost_ret (v := .tuple #[.agg #[.int .i64 0, .int .i64 0], .int .i64 1]) (by simp [results, Try.results63, go_sem]) rfl ⟨rfl, ?_⟩
  repeat (first | exact ((Below.refl _ _).alloc (Nat.le_refl _) _).alloc (by simp) _ | refine Below.setCell ?_ (by simp) _)

/-- The method value for a kind. -/
def passV (k : Int) (p : Value) : Value := if k = 1 then .func (.func 63) #[p] #[] else if k = 3 then .func (.func 64) #[p] #[] else .func (.func 65) #[p] #[]
/-- The interface value for a kind. -/
def kindV (k : Int) : Value := if k = 1 then .iface 110 (.agg #[]) else if k = 2 then .iface 112 (.agg #[]) else if k = 3 then .iface 111 (.agg #[]) else .iface 113 (.agg #[])
theorem kindOf_any (k : Int) (h : 1 ≤ k ∧ k ≤ 4) (w : World) : Calls Try.prog 55 #[.int .i64 k] w fun e w' => e = .returned (kindV k) ∧ w = w' := by
  have hk : k = 1 ∨ k = 2 ∨ k = 3 ∨ k = 4 := by omega
  rcases hk with rfl | rfl | rfl | rfl
  · exact kindOf_1 w
  · exact kindOf_2 w
  · exact kindOf_3 w
  · exact kindOf_4 w

theorem tb_1 (w : World) : (Instr.typeAssert (.iface 110 (.agg #[])) 98 110 true).run Try.prog w = .ok (.tuple #[.agg #[], .bool true]) w := by kernel_rfl
theorem tb_2 (w : World) : (Instr.typeAssert (.iface 112 (.agg #[])) 98 110 true).run Try.prog w = .ok (.tuple #[.agg #[], .bool false]) w := by kernel_rfl
theorem tb_3 (w : World) : (Instr.typeAssert (.iface 111 (.agg #[])) 98 110 true).run Try.prog w = .ok (.tuple #[.agg #[], .bool false]) w := by kernel_rfl
theorem tb_4 (w : World) : (Instr.typeAssert (.iface 113 (.agg #[])) 98 110 true).run Try.prog w = .ok (.tuple #[.agg #[], .bool false]) w := by kernel_rfl

theorem passing_1 (p : Value) (w : World) : Calls Try.prog 54 #[p, .iface 110 (.agg #[])] w fun e w' => e = .returned (.func (.func 63) #[p] #[]) ∧ w = w' := by
  have hmf : ∀ (fn : Fn) (first cap : Array Value) (w : World), (Instr.makeFunc fn first cap).run Try.prog w = .ok (.func fn first cap) w := fun _ _ _ _ => rfl
  have h1 := tb_1
  go_enter Try.func54, Try.ntmps54
  go_wp2_with fail
  go_ret
  exact ⟨rfl, rfl⟩
theorem passing_2 (p : Value) (w : World) : Calls Try.prog 54 #[p, .iface 112 (.agg #[])] w fun e w' => e = .returned (.func (.func 65) #[p] #[]) ∧ w = w' := by
  have hmf : ∀ (fn : Fn) (first cap : Array Value) (w : World), (Instr.makeFunc fn first cap).run Try.prog w = .ok (.func fn first cap) w := fun _ _ _ _ => rfl
  have h1 := tb_2
  have h3 := ta_2_3
  go_enter Try.func54, Try.ntmps54
  go_wp2_with fail
  go_ret
  exact ⟨rfl, rfl⟩
theorem passing_3 (p : Value) (w : World) : Calls Try.prog 54 #[p, .iface 111 (.agg #[])] w fun e w' => e = .returned (.func (.func 64) #[p] #[]) ∧ w = w' := by
  have hmf : ∀ (fn : Fn) (first cap : Array Value) (w : World), (Instr.makeFunc fn first cap).run Try.prog w = .ok (.func fn first cap) w := fun _ _ _ _ => rfl
  have h1 := tb_3
  have h3 := ta_3_3
  go_enter Try.func54, Try.ntmps54
  go_wp2_with fail
  go_ret
  exact ⟨rfl, rfl⟩
theorem passing_4 (p : Value) (w : World) : Calls Try.prog 54 #[p, .iface 113 (.agg #[])] w fun e w' => e = .returned (.func (.func 65) #[p] #[]) ∧ w = w' := by
  have hmf : ∀ (fn : Fn) (first cap : Array Value) (w : World), (Instr.makeFunc fn first cap).run Try.prog w = .ok (.func fn first cap) w := fun _ _ _ _ => rfl
  have h1 := tb_4
  have h3 := ta_4_3
  go_enter Try.func54, Try.ntmps54
  go_wp2_with fail
  go_ret
  exact ⟨rfl, rfl⟩
theorem passing_any (k : Int) (h : 1 ≤ k ∧ k ≤ 4) (p : Value) (w : World) : Calls Try.prog 54 #[p, kindV k] w fun e w' => e = .returned (passV k p) ∧ w = w' := by
  have hk : k = 1 ∨ k = 2 ∨ k = 3 ∨ k = 4 := by omega
  rcases hk with rfl | rfl | rfl | rfl
  · exact passing_1 p w
  · exact passing_2 p w
  · exact passing_3 p w
  · exact passing_4 p w
end Go.Proofs.Yteapmddadieohaa

/- through, asItLies. Own work. -/
namespace Go.Proofs.Yteapmddadieohaa
open Go.RowKit
set_option maxHeartbeats 4000000

/-- What a walk over a joint holds on to: the cursor's joints, the joint, the box of the seat. -/
abbrev TS (w wx : World) (B : Nat) (sj : Value) (jb jo : Nat) (kd : Int) (nm : ByteArray) (es : Value) (x y z : Int) : Prop :=
  (wx.cell? ⟨B, 4, none⟩ = some sj ∧ wx.cell? ⟨jb, jo, none⟩ = some (.int .i64 kd) ∧ wx.cell? ⟨jb, jo + 1, none⟩ = some (.string nm) ∧ wx.cell? ⟨jb, jo + 2, none⟩ = some es ∧ wx.cell? ⟨w.heap.size, 0, none⟩ = some (.int .i64 x) ∧ wx.cell? ⟨w.heap.size, 1, none⟩ = some (.int .i64 y) ∧ wx.cell? ⟨w.heap.size, 2, none⟩ = some (.int .i64 z)) ∧ Hid (Below w.heap.size w wx)
theorem keepT {w w2 w3 : World} {B : Nat} {sj : Value} {jb jo : Nat} {kd : Int} {nm : ByteArray} {es : Value} {x y z : Int} (hb : Below w2.heap.size w2 w3) (h : TS w w2 B sj jb jo kd nm es x y z) : TS w w3 B sj jb jo kd nm es x y z :=
  ⟨⟨cell_later' hb h.1.1, cell_later' hb h.1.2.1, cell_later' hb h.1.2.2.1, cell_later' hb h.1.2.2.2.1, cell_later' hb h.1.2.2.2.2.1, cell_later' hb h.1.2.2.2.2.2.1, cell_later' hb h.1.2.2.2.2.2.2⟩, h.2.out.trans (hb.mono h.2.out.size)⟩
theorem keepT2 {w w2 : World} {B : Nat} {sj : Value} {jb jo : Nat} {kd : Int} {nm : ByteArray} {es : Value} {x y z : Int} (h : TS w w2 B sj jb jo kd nm es x y z) (hB : B < w.heap.size) (hj : jb < w.heap.size) (v v' : Value) :
    TS w ((w2.setCell ⟨w.heap.size + 1, 0, none⟩ v).setCell ⟨w.heap.size + 1, 1, none⟩ v') B sj jb jo kd nm es x y z := by
  have e : ∀ (W : World) (o : Nat) (v : Value) (b i : Nat) (u : Value), b < w.heap.size + 1 → W.cell? ⟨b, i, none⟩ = some u → (W.setCell ⟨w.heap.size + 1, o, none⟩ v).cell? ⟨b, i, none⟩ = some u := fun W o v b i u hb hu => by
    rw [World.cell?_setCell_far W ⟨w.heap.size + 1, o, none⟩ ⟨b, i, none⟩ v (by show w.heap.size + 1 ≠ b; omega)]; exact hu
  exact ⟨⟨e _ _ _ _ _ _ (by omega) (e _ _ _ _ _ _ (by omega) h.1.1), e _ _ _ _ _ _ (by omega) (e _ _ _ _ _ _ (by omega) h.1.2.1), e _ _ _ _ _ _ (by omega) (e _ _ _ _ _ _ (by omega) h.1.2.2.1), e _ _ _ _ _ _ (by omega) (e _ _ _ _ _ _ (by omega) h.1.2.2.2.1), e _ _ _ _ _ _ (by omega) (e _ _ _ _ _ _ (by omega) h.1.2.2.2.2.1), e _ _ _ _ _ _ (by omega) (e _ _ _ _ _ _ (by omega) h.1.2.2.2.2.2.1), e _ _ _ _ _ _ (by omega) (e _ _ _ _ _ _ (by omega) h.1.2.2.2.2.2.2)⟩, (h.2.out.setCell (by show w.heap.size ≤ w.heap.size + 1; omega) _).setCell (by show w.heap.size ≤ w.heap.size + 1; omega) _⟩

theorem through_any (B n : Nat) (a' : Option Addr) (cap' : Nat) (js : List Jt) (j i : Nat) (z : Int) (L : List (Int × Int)) (w : World) (hj : j < js.length) (h3 : jb3 n js[j] = false) (hi : i < js[j].ends.length) (hL : acr js[j] i = L) (hpos : 0 < L.length) (hc : w.cell? ⟨B, 4, none⟩ = some (.slice a' js.length cap')) (hJ : JtsAt w a' js) :
    Calls Try.prog 65 #[.pointer (some ⟨B, 0, none⟩), .agg #[.int .i64 j, .int .i64 i, .int .i64 z]] w fun e w' => e = .returned (.tuple #[.agg #[.int .i64 L[0].1, .int .i64 L[0].2], .int .i64 0]) ∧ Below w.heap.size w w' := by
  obtain ⟨jb, jo, ea, ec, rfl, d0, d1, d2, dE⟩ := hJ j hj
  have hB := cell_lt hc
  have hjb := cell_lt d0
  have hji : (j : Int) < (js.length : Int) := by omega
  have hp1 : (0 : Int) < (L.length : Int) := by omega
  have HE := hide dE
  have HL := hide hL
  have H3 := hide h3
  clear hJ dE hL h3
  have hbW : Below w.heap.size w ((w.alloc (.cells #[.int .i64 j, .int .i64 i, .int .i64 z] 85)).alloc (.cells #[.int .i64 0, .int .i64 0] 59)) := ((Below.refl _ _).alloc (Nat.le_refl _) _).alloc (by simp) _
  have hTS : TS w ((w.alloc (.cells #[.int .i64 j, .int .i64 i, .int .i64 z] 85)).alloc (.cells #[.int .i64 0, .int .i64 0] 59)) B (.slice (some ⟨jb, jo, none⟩) js.length cap') jb (jo + j * 3) js[j].kind js[j].name (.slice ea js[j].ends.length ec) j i z :=
    ⟨⟨cell_later' hbW hc, cell_later' hbW d0, cell_later' hbW d1, cell_later' hbW d2, by simp [go_sem], by simp [go_sem], by simp [go_sem]⟩, hbW⟩
  have HTS := hide hTS
  have r0 : ((w.alloc (.cells #[.int .i64 j, .int .i64 i, .int .i64 z] 85)).alloc (.cells #[.int .i64 0, .int .i64 0] 59)).cell? ⟨w.heap.size + 1, 0, none⟩ = some (.int .i64 0) := by simp [go_sem]
  have r1 : ((w.alloc (.cells #[.int .i64 j, .int .i64 i, .int .i64 z] 85)).alloc (.cells #[.int .i64 0, .int .i64 0] 59)).cell? ⟨w.heap.size + 1, 1, none⟩ = some (.int .i64 0) := by simp [go_sem]
  have g0 : ((w.alloc (.cells #[.int .i64 j, .int .i64 i, .int .i64 z] 85)).alloc (.cells #[.int .i64 0, .int .i64 0] 59)).frozen? ⟨w.heap.size + 1, 0, none⟩ = false := by simp [go_sem]
  have g1 : ((w.alloc (.cells #[.int .i64 j, .int .i64 i, .int .i64 z] 85)).alloc (.cells #[.int .i64 0, .int .i64 0] 59)).frozen? ⟨w.heap.size + 1, 1, none⟩ = false := by simp [go_sem]
  clear hTS hbW d0 d1 d2 hc
  go_enter Try.func65, Try.ntmps65
  go_upto_region 1 with fail
  generalize ((w.alloc (.cells #[.int .i64 j, .int .i64 i, .int .i64 z] 85)).alloc (.cells #[.int .i64 0, .int .i64 0] 59)) = w1 at *
  obtain ⟨⟨t0, t1, t2, t3, t4, t5, t6⟩, hB1⟩ := HTS.out
  have h11 : Below w1.heap.size w1 w1.drew := (Below.refl _ _).drew
  have HE1 := hide (HE.out.later (hB1.out.trans (h11.mono hB1.out.size)))
  clear HTS
  go_region_with (first
      | (go_at_call 68; refine (over_any n js[j] ea ec i _ H3.out hi HE1.out).mono ?_; rintro e w2 ⟨v, rfl, hNE, hb2⟩; have hb12 := chn h11 hb2; rw [HL.out] at hNE; obtain ⟨ea2, ec2, rfl, hEA, _⟩ := hNE; obtain ⟨eb, eo, rfl, x0, x1⟩ := hEA 0 hpos; have y0 := cell_later' hb12 r0; have y1 := cell_later' hb12 r1; have z0 := frozen_later hb12 r0 g0; have z1 := frozen_later hb12 r1 g1; have HB2 := hide (hB1.out.trans (hb12.mono hB1.out.size)); clear hEA hb12 hb2 r0 r1 g0 g1 t0 t1 t2 t3 t4 t5 t6; simp only [Nat.zero_mul, Nat.add_zero] at x0 x1))
  all_goals
    go_wp2_with fail
    exact bodyPost_ret (v := .tuple #[.agg #[.int .i64 L[0].1, .int .i64 L[0].2], .int .i64 0]) (by simp [results, Try.results65, go_sem, y0, y1]) rfl ⟨rfl, (HB2.out.setCell (by show w.heap.size ≤ w.heap.size + 1; omega) _).setCell (by show w.heap.size ≤ w.heap.size + 1; omega) _⟩
end Go.Proofs.Yteapmddadieohaa

/- impl.over, at every right joint. Own work. -/
import Derived.Test.YtijdigdcmjdooaaGreatMxAE
import Derived.Test.YtijdigdcmjdooaaGreatMxAK
import Derived.Test.YtijdigdcmjdooaaGreatDrS
import Derived.Test.YtijdigdcmjdooaaGreatMxAA
import Derived.DeepKeys4
import Derived.Deep.Slices
import Derived.Deep.Strs
import Derived.Lib.SmallJoins
import Derived.ChangeSame
import Derived.ProofKit
import Derived.Test.YtijdigdcmjdooaaGreatMxAC
import Derived.Test.YtijdigdcmjdooaaGreatMxAB
import Derived.Deep.RegionHeld3
import Derived.Deep.DeepCutAuto
import Derived.Test.YtijdigdcmjdooaaGreatMxAJ
import Derived.Lib.QuietBelow
import Derived.BigQuiet
namespace Go.Proofs.YtijdigdcmjdooaaGreat
open Go.RowKit
set_option maxHeartbeats 1000000

theorem over_any (n : Nat) (j : Jt) (a : Option Addr) (cap i : Nat) (w : World) (h3 : jb3 n j = false) (hi : i < j.ends.length) (h : EndsAt w a j.ends) :
    Calls Tryz.prog 89 #[.agg #[.int .i64 j.kind, .string j.name, .slice a j.ends.length cap], .int .i64 i] w fun e w' =>
    ∃ v, e = .returned v ∧ NewEnds w.heap.size w' v (acr j i) ∧ Below w.heap.size w w' := by
  obtain ⟨hk, hl⟩ := jb3_len h3
  clear h3
  obtain ⟨kind, name, ends⟩ := j
  simp only at hk hl hi h
  have hkk : kind = 1 ∨ kind = 2 ∨ kind = 3 ∨ kind = 4 := by omega
  rcases hkk with rfl | rfl | rfl | rfl
  · match ends, (show ends.length = 1 by omega) with
    | [e0], _ =>
      have hii : i = 0 := by simp at hi; omega
      subst hii
      exact over_1_0 name a cap e0 w h
  · match ends, (show ends.length = 2 by omega) with
    | [e0, e1], _ =>
      have hii : i = 0 ∨ i = 1 := by simp at hi; omega
      rcases hii with rfl | rfl
      · exact over_2_0 name a cap e0 e1 w h
      · exact over_2_1 name a cap e0 e1 w h
  · match ends, (show ends.length = 3 by omega) with
    | [e0, e1, e2], _ =>
      have hii : i = 0 ∨ i = 1 ∨ i = 2 := by simp at hi; omega
      rcases hii with rfl | rfl | rfl
      · exact over_3_0 name a cap e0 e1 e2 w h
      · exact over_3_1 name a cap e0 e1 e2 w h
      · exact over_3_2 name a cap e0 e1 e2 w h
  · match ends, (show ends.length = 4 by omega) with
    | [e0, e1, e2, e3], _ =>
      have hii : i = 0 ∨ i = 1 ∨ i = 2 ∨ i = 3 := by simp at hi; omega
      rcases hii with rfl | rfl | rfl | rfl
      · exact over_4_0 name a cap e0 e1 e2 e3 w h
      · exact over_4_1 name a cap e0 e1 e2 e3 w h
      · exact over_4_2 name a cap e0 e1 e2 e3 w h
      · exact over_4_3 name a cap e0 e1 e2 e3 w h
end Go.Proofs.YtijdigdcmjdooaaGreat

/- The cursor's small methods. Own work. -/
namespace Go.Proofs.YtijdigdcmjdooaaGreat
open Go.RowKit
set_option maxHeartbeats 2000000

theorem room_any (q a wy len : Int) (w : World) (hwy : wy = 1 ∨ wy = -1) (hl : 0 ≤ len ∧ len ≤ 10000000) (ha : 0 ≤ a ∧ a ≤ 10000000) :
    Calls Tryz.prog 87 #[.agg #[.int .i64 q, .int .i64 a, .int .i64 wy], .int .i64 len] w fun e w' => e = .returned (.int .i64 (if wy = 1 then len - a else a)) ∧ Below w.heap.size w w' := by
  obtain ⟨hl0, hl1⟩ := hl
  obtain ⟨ha0, ha1⟩ := ha
  have hbA := (Below.refl w.heap.size w).alloc (Nat.le_refl _) (.cells #[.int .i64 q, .int .i64 a, .int .i64 wy] 29)
  rcases hwy with rfl | rfl
  all_goals
    go_enter Tryz.func87, Tryz.ntmps87
    go_wp2_with fail
    go_ret
    exact ⟨ret_i (by simp), hbA⟩

theorem facing_any (q a wy : Int) (w : World) (hwy : wy = 1 ∨ wy = -1) :
    Calls Tryz.prog 88 #[.agg #[.int .i64 q, .int .i64 a, .int .i64 wy]] w fun e w' => e = .returned (.agg #[.int .i64 (headP q wy).1, .int .i64 (headP q wy).2]) ∧ Below w.heap.size w w' := by
  rcases hwy with rfl | rfl
  · go_enter Tryz.func88, Tryz.ntmps88
    go_wp2_with fail
    exact bodyPost_ret (v := .agg #[.int .i64 q, .int .i64 1]) (by simp [results, Tryz.results88, go_sem]) rfl ⟨rfl, ((Below.refl _ _).alloc (Nat.le_refl _) _).alloc (by simp) _⟩
  · go_enter Tryz.func88, Tryz.ntmps88
    go_wp2_with fail
    exact bodyPost_ret (v := .agg #[.int .i64 q, .int .i64 0]) (by simp [results, Tryz.results88, go_sem]) rfl ⟨rfl, ((Below.refl _ _).alloc (Nat.le_refl _) _).alloc (by simp) _⟩

theorem halt_any (p : Value) (x y z : Int) (w : World) :
    Calls Tryz.prog 143 #[p, .agg #[.int .i64 x, .int .i64 y, .int .i64 z]] w fun e w' => e = .returned (.tuple #[.agg #[.int .i64 0, .int .i64 0], .int .i64 1]) ∧ Below w.heap.size w w' := by
  go_enter Tryz.func143, Tryz.ntmps143
  go_wp2_with fail
  refine bodyPost_ret (v := .tuple #[.agg #[.int .i64 0, .int .i64 0], .int .i64 1]) (by simp [results, Tryz.results143, go_sem]) rfl ⟨rfl, ?_⟩
  repeat (first | exact ((Below.refl _ _).alloc (Nat.le_refl _) _).alloc (by simp) _ | refine Below.setCell ?_ (by simp) _)

/-- The method value for a kind. -/
def passV (k : Int) (p : Value) : Value := if k = 1 then .func (.func 143) #[p] #[] else if k = 3 then .func (.func 144) #[p] #[] else .func (.func 145) #[p] #[]
/-- The interface value for a kind. -/
def kindV (k : Int) : Value := if k = 1 then .iface 222 (.agg #[]) else if k = 2 then .iface 193 (.agg #[]) else if k = 3 then .iface 194 (.agg #[]) else .iface 195 (.agg #[])
theorem kindOf_any (k : Int) (h : 1 ≤ k ∧ k ≤ 4) (w : World) : Calls Tryz.prog 113 #[.int .i64 k] w fun e w' => e = .returned (kindV k) ∧ w = w' := by
  have hk : k = 1 ∨ k = 2 ∨ k = 3 ∨ k = 4 := by omega
  rcases hk with rfl | rfl | rfl | rfl
  · exact kindOf_1 w
  · exact kindOf_2 w
  · exact kindOf_3 w
  · exact kindOf_4 w

theorem tb_1 (w : World) : (Instr.typeAssert (.iface 222 (.agg #[])) 190 222 true).run Tryz.prog w = .ok (.tuple #[.agg #[], .bool true]) w := by kernel_rfl
theorem tb_2 (w : World) : (Instr.typeAssert (.iface 193 (.agg #[])) 190 222 true).run Tryz.prog w = .ok (.tuple #[.agg #[], .bool false]) w := by kernel_rfl
theorem tb_3 (w : World) : (Instr.typeAssert (.iface 194 (.agg #[])) 190 222 true).run Tryz.prog w = .ok (.tuple #[.agg #[], .bool false]) w := by kernel_rfl
theorem tb_4 (w : World) : (Instr.typeAssert (.iface 195 (.agg #[])) 190 222 true).run Tryz.prog w = .ok (.tuple #[.agg #[], .bool false]) w := by kernel_rfl

theorem passing_1 (p : Value) (w : World) : Calls Tryz.prog 132 #[p, .iface 222 (.agg #[])] w fun e w' => e = .returned (.func (.func 143) #[p] #[]) ∧ w = w' := by
  have hmf : ∀ (fn : Fn) (first cap : Array Value) (w : World), (Instr.makeFunc fn first cap).run Tryz.prog w = .ok (.func fn first cap) w := fun _ _ _ _ => rfl
  have h1 := tb_1
  go_enter Tryz.func132, Tryz.ntmps132
  go_wp2_with fail
  go_ret
  exact ⟨rfl, rfl⟩
theorem passing_2 (p : Value) (w : World) : Calls Tryz.prog 132 #[p, .iface 193 (.agg #[])] w fun e w' => e = .returned (.func (.func 145) #[p] #[]) ∧ w = w' := by
  have hmf : ∀ (fn : Fn) (first cap : Array Value) (w : World), (Instr.makeFunc fn first cap).run Tryz.prog w = .ok (.func fn first cap) w := fun _ _ _ _ => rfl
  have h1 := tb_2
  have h3 := ta_2_3
  go_enter Tryz.func132, Tryz.ntmps132
  go_wp2_with fail
  go_ret
  exact ⟨rfl, rfl⟩
theorem passing_3 (p : Value) (w : World) : Calls Tryz.prog 132 #[p, .iface 194 (.agg #[])] w fun e w' => e = .returned (.func (.func 144) #[p] #[]) ∧ w = w' := by
  have hmf : ∀ (fn : Fn) (first cap : Array Value) (w : World), (Instr.makeFunc fn first cap).run Tryz.prog w = .ok (.func fn first cap) w := fun _ _ _ _ => rfl
  have h1 := tb_3
  have h3 := ta_3_3
  go_enter Tryz.func132, Tryz.ntmps132
  go_wp2_with fail
  go_ret
  exact ⟨rfl, rfl⟩
theorem passing_4 (p : Value) (w : World) : Calls Tryz.prog 132 #[p, .iface 195 (.agg #[])] w fun e w' => e = .returned (.func (.func 145) #[p] #[]) ∧ w = w' := by
  have hmf : ∀ (fn : Fn) (first cap : Array Value) (w : World), (Instr.makeFunc fn first cap).run Tryz.prog w = .ok (.func fn first cap) w := fun _ _ _ _ => rfl
  have h1 := tb_4
  have h3 := ta_4_3
  go_enter Tryz.func132, Tryz.ntmps132
  go_wp2_with fail
  go_ret
  exact ⟨rfl, rfl⟩
theorem passing_any (k : Int) (h : 1 ≤ k ∧ k ≤ 4) (p : Value) (w : World) : Calls Tryz.prog 132 #[p, kindV k] w fun e w' => e = .returned (passV k p) ∧ w = w' := by
  have hk : k = 1 ∨ k = 2 ∨ k = 3 ∨ k = 4 := by omega
  rcases hk with rfl | rfl | rfl | rfl
  · exact passing_1 p w
  · exact passing_2 p w
  · exact passing_3 p w
  · exact passing_4 p w
end Go.Proofs.YtijdigdcmjdooaaGreat

/- From the reading of the arguments to how they lie in memory. Own work. -/
namespace Go.Proofs.YtijdigdcmjdooaaGreat
open Go.RowKit Go.Joins Go.Deep Go.WideShapes Go.ChangeShapes
set_option maxRecDepth 100000

theorem list_of {α : Type} {P : Nat → α → Prop} (n : Nat) (h : ∀ i, i < n → ∃ x, P i x) : ∃ l : List α, l.length = n ∧ ∀ i (hi : i < l.length), P i l[i] := by
  induction n with
  | zero => exact ⟨[], rfl, fun i hi => by simp at hi⟩
  | succ n ih =>
    obtain ⟨l, hl, hp⟩ := ih (fun i hi => h i (by omega))
    obtain ⟨x, hx⟩ := h n (by omega)
    refine ⟨l ++ [x], by simp [hl], fun i hi => ?_⟩
    by_cases e : i < l.length
    · rw [List.getElem_append_left e]; exact hp i e
    · have : i = l.length := by simp at hi; omega
      subst this
      rw [List.getElem_append_right (Nat.le_refl _)]
      simp only [Nat.sub_self, List.getElem_singleton, hl]
      exact hx

theorem cellsI : Tryz.prog.cellsOf 3 = 1 := by kernel_rfl
theorem cellsStr : Tryz.prog.cellsOf 9 = 1 := by kernel_rfl
theorem cellsLE : Tryz.prog.cellsOf 219 = 2 := by kernel_rfl
theorem cellsLP : Tryz.prog.cellsOf 144 = 4 := by kernel_rfl
theorem cellsLJ : Tryz.prog.cellsOf 148 = 3 := by kernel_rfl
theorem cellsLEs : Tryz.prog.cellsOf 146 = 1 := by kernel_rfl
theorem cellsLN : Tryz.prog.cellsOf 48 = 2 := by kernel_rfl

section
variable {H : Type} {enc : TypeId × Value → H} {w : World} {spare : Nat → Bool} {held : Bool}

theorem ends_of_trod {fuel : Nat} {cs : List Value} {x : DataW H × List MemPlace} (h : DataW.trod enc Tryz.prog w 0 spare held fuel 146 cs = some x) :
    ∃ a cap es, cs = [.slice a es.length cap] ∧ EndsAt w a es ∧ es.length ≤ maxLen ∧ ∀ e ∈ es, Wf2 e := by
  rcases open_slice Tryz.underlying146 h with ⟨rfl, _⟩ | ⟨a, len, cap, m, n, D, Pl, rfl, _, hlc, hcm, hm, _, hall⟩
  · exact ⟨none, 0, [], rfl, fun k hk => by simp at hk, by simp, by simp⟩
  · have hlm : len ≤ m := by rw [hm]; split <;> omega
    have hex : ∀ i, i < len → ∃ e : Int × Int, (w.cell? ((a.add (i * 2)).add 0) = some (.int .i64 e.1) ∧ w.cell? ((a.add (i * 2)).add 1) = some (.int .i64 e.2)) ∧ Wf2 e := by
      intro i hi
      obtain ⟨cs', hc, ht⟩ := hall i (by omega)
      rw [cellsLE] at hc
      obtain ⟨y0, y1, n', _, hlen, h0, h1⟩ := trod_struct2 Tryz.underlying219 ht
      rw [cellsLE] at hlen
      obtain ⟨_, _, hcell⟩ := World.cells?_some hc
      match cs', hlen with
      | [v0, v1], _ =>
        simp [cellsI] at h0 h1
        obtain ⟨x0, e0, _, w0⟩ := DataW.trod_int Tryz.underlying3 h0
        obtain ⟨x1, e1, _, w1⟩ := DataW.trod_int Tryz.underlying3 h1
        simp at e0 e1
        subst e0; subst e1
        exact ⟨(x0, x1), ⟨hcell 0 (by omega), hcell 1 (by omega)⟩, w0, w1⟩
    obtain ⟨es, hl, hes⟩ := list_of len hex
    refine ⟨some a, cap, es, by rw [hl], ?_, by omega, ?_⟩
    · intro k hk
      obtain ⟨b, off, spot⟩ := a
      have h00 := (hes 0 (by omega)).1.1
      have hspot : spot = none := by simpa [Addr.add] using World.cell?_spot h00
      subst hspot
      have hk2 := (hes k hk).1
      simp only [add_plain] at hk2
      exact ⟨b, off, rfl, hk2.1, hk2.2⟩
    · intro e he
      obtain ⟨k, hk, rfl⟩ := List.getElem_of_mem he
      exact (hes k hk).2

theorem pcs_of_trod {fuel : Nat} {cs : List Value} {x : DataW H × List MemPlace} (h : DataW.trod enc Tryz.prog w 0 spare held fuel 45 cs = some x) :
    ∃ a cap ps, cs = [.slice a ps.length cap] ∧ PcsAt w a ps ∧ ps.length ≤ maxLen ∧ ∀ p ∈ ps, p.name.size ≤ maxLen := by
  rcases open_slice Tryz.underlying45 h with ⟨rfl, _⟩ | ⟨a, len, cap, m, n, D, Pl, rfl, _, hlc, hcm, hm, _, hall⟩
  · exact ⟨none, 0, [], rfl, fun k hk => by simp at hk, by simp, by simp⟩
  · have hlm : len ≤ m := by rw [hm]; split <;> omega
    have hex : ∀ i, i < len → ∃ p : Pc, (w.cell? ((a.add (i * 4)).add 0) = some (.string p.name) ∧ w.cell? ((a.add (i * 4)).add 1) = some (.int .i64 p.len) ∧ w.cell? ((a.add (i * 4)).add 2) = some (.int .i64 p.speed) ∧ w.cell? ((a.add (i * 4)).add 3) = some (.int .i64 p.brake)) ∧ p.name.size ≤ maxLen := by
      intro i hi
      obtain ⟨cs', hc, ht⟩ := hall i (by omega)
      rw [cellsLP] at hc
      obtain ⟨y0, y1, y2, y3, n', _, hlen, h0, h1, h2, h3⟩ := trod_struct4 Tryz.underlying144 ht
      rw [cellsLP] at hlen
      obtain ⟨_, _, hcell⟩ := World.cells?_some hc
      match cs', hlen with
      | [v0, v1, v2, v3], _ =>
        simp [cellsI, cellsStr] at h0 h1 h2 h3
        obtain ⟨s, e0, _, w0⟩ := DataW.trod_string Tryz.underlying9 h0
        obtain ⟨x1, e1, _, _⟩ := DataW.trod_int Tryz.underlying3 h1
        obtain ⟨x2, e2, _, _⟩ := DataW.trod_int Tryz.underlying3 h2
        obtain ⟨x3, e3, _, _⟩ := DataW.trod_int Tryz.underlying3 h3
        simp at e0 e1 e2 e3
        subst e0; subst e1; subst e2; subst e3
        exact ⟨⟨s, x1, x2, x3⟩, ⟨hcell 0 (by omega), hcell 1 (by omega), hcell 2 (by omega), hcell 3 (by omega)⟩, w0⟩
    obtain ⟨es, hl, hes⟩ := list_of len hex
    refine ⟨some a, cap, es, by rw [hl], ?_, by omega, ?_⟩
    · intro k hk
      obtain ⟨b, off, spot⟩ := a
      have h00 := (hes 0 (by omega)).1.1
      have hspot : spot = none := by simpa [Addr.add] using World.cell?_spot h00
      subst hspot
      have hk2 := (hes k hk).1
      simp only [add_plain] at hk2
      exact ⟨b, off, rfl, hk2.1, hk2.2.1, hk2.2.2.1, hk2.2.2.2⟩
    · intro e he
      obtain ⟨k, hk, rfl⟩ := List.getElem_of_mem he
      exact (hes k hk).2

theorem jts_of_trod {fuel : Nat} {cs : List Value} {x : DataW H × List MemPlace} (h : DataW.trod enc Tryz.prog w 0 spare held fuel 46 cs = some x) :
    ∃ a cap js, cs = [.slice a js.length cap] ∧ JtsAt w a js ∧ js.length ≤ maxLen ∧ ∀ j ∈ js, j.name.size ≤ maxLen ∧ j.ends.length ≤ maxLen := by
  rcases open_slice Tryz.underlying46 h with ⟨rfl, _⟩ | ⟨a, len, cap, m, n, D, Pl, rfl, _, hlc, hcm, hm, _, hall⟩
  · exact ⟨none, 0, [], rfl, fun k hk => by simp at hk, by simp, by simp⟩
  · have hlm : len ≤ m := by rw [hm]; split <;> omega
    have hex : ∀ i, i < len → ∃ j : Jt, (∃ ea ec, w.cell? ((a.add (i * 3)).add 0) = some (.int .i64 j.kind) ∧ w.cell? ((a.add (i * 3)).add 1) = some (.string j.name) ∧ w.cell? ((a.add (i * 3)).add 2) = some (.slice ea j.ends.length ec) ∧ EndsAt w ea j.ends) ∧ j.name.size ≤ maxLen ∧ j.ends.length ≤ maxLen := by
      intro i hi
      obtain ⟨cs', hc, ht⟩ := hall i (by omega)
      rw [cellsLJ] at hc
      obtain ⟨y0, y1, y2, n', _, hlen, h0, h1, h2⟩ := trod_struct3 Tryz.underlying148 ht
      rw [cellsLJ] at hlen
      obtain ⟨_, _, hcell⟩ := World.cells?_some hc
      match cs', hlen with
      | [v0, v1, v2], _ =>
        simp [cellsI, cellsStr, cellsLEs] at h0 h1 h2
        obtain ⟨x0, e0, _, _⟩ := DataW.trod_int Tryz.underlying3 h0
        obtain ⟨s, e1, _, w1⟩ := DataW.trod_string Tryz.underlying9 h1
        obtain ⟨ea, ec, es, e2, hE, hEl, _⟩ := ends_of_trod h2
        simp at e0 e1 e2
        subst e0; subst e1; subst e2
        exact ⟨⟨x0, s, es⟩, ⟨ea, ec, hcell 0 (by omega), hcell 1 (by omega), hcell 2 (by omega), hE⟩, w1, hEl⟩
    obtain ⟨es, hl, hes⟩ := list_of len hex
    refine ⟨some a, cap, es, by rw [hl], ?_, by omega, ?_⟩
    · intro k hk
      obtain ⟨b, off, spot⟩ := a
      obtain ⟨_, _, h00, _⟩ := (hes 0 (by omega)).1
      have hspot : spot = none := by simpa [Addr.add] using World.cell?_spot h00
      subst hspot
      obtain ⟨ea, ec, hk2⟩ := (hes k hk).1
      simp only [add_plain] at hk2
      exact ⟨b, off, ea, ec, rfl, hk2.1, hk2.2.1, hk2.2.2.1, hk2.2.2.2⟩
    · intro e he
      obtain ⟨k, hk, rfl⟩ := List.getElem_of_mem he
      exact (hes k hk).2

theorem net_of_trod {r : Reach} {b0 : Nat} {v : Value} {d : DataW H} {p : List MemPlace} (hv : Value.okWide Tryz.prog w r b0 48 v) (h : DataW.Trod enc Tryz.prog w 0 spare held 48 v d p) :
    ∃ (N : Nt) (a a' : Option Addr) (cap cap' : Nat), v = .agg #[.slice a N.pcs.length cap, .slice a' N.jts.length cap'] ∧ PcsAt w a N.pcs ∧ JtsAt w a' N.jts ∧ (N.pcs.length ≤ maxLen ∧ ∀ p ∈ N.pcs, p.name.size ≤ maxLen) ∧ (N.jts.length ≤ maxLen ∧ ∀ j ∈ N.jts, j.name.size ≤ maxLen ∧ j.ends.length ≤ maxLen) := by
  obtain ⟨v0, v1, y0, y1, n, rfl, _, _, h0, h1⟩ := open_agg2 Tryz.underlying48 (by kernel_rfl) cellsLN hv h
  obtain ⟨a, cap, ps, e0, hp, hpl, hps⟩ := pcs_of_trod h0
  obtain ⟨a', cap', js, e1, hj, hjl, hjs⟩ := jts_of_trod h1
  simp at e0 e1
  subst e0; subst e1
  exact ⟨⟨ps, js⟩, a, a', cap, cap', rfl, hp, hj, ⟨hpl, hps⟩, hjl, hjs⟩
end
end Go.Proofs.YtijdigdcmjdooaaGreat

/- What SpotOk and Turn answer; boxes of three numbers (taken out of StB, LwS, LwT). Own work. -/
namespace Go.Proofs.YtijdigdcmjdooaaGreat
open Go.RowKit
set_option maxHeartbeats 2000000

def spotOkP (N : Nt) (q at' way : Int) : Bool := decide (netOk N = (0, 0)) && spotP N q at' way
/-- What Turn answers. -/
def turnP (N : Nt) (q at' way : Int) : Int × Int × Int := if spotOkP N q at' way then (q, at', -way) else (0, 0, 0)
theorem spotOk_way {N : Nt} {q at' way : Int} (h : spotOkP N q at' way = true) : way = 1 ∨ way = -1 := by
  simp [spotOkP, spotP] at h
  omega
/-- impl.SpotOk answers as it should. -/
def SpotOkDone : Prop := ∀ (a a' : Option Addr) (N : Nt) (cap cap' : Nat) (q at' way : Int) (w : World), Wf3 q at' way → N.pcs.length ≤ 1048576 → (∀ p ∈ N.pcs, p.name.size ≤ 1048576) → N.jts.length ≤ 1048576 → (∀ j ∈ N.jts, j.name.size ≤ 1048576 ∧ j.ends.length ≤ 1048576) → PcsAt w a N.pcs → JtsAt w a' N.jts →
    Calls Tryz.prog 25 #[.agg #[.slice a N.pcs.length cap, .slice a' N.jts.length cap'], .agg #[.int .i64 q, .int .i64 at', .int .i64 way]] w fun e w' => e = .returned (.bool (spotOkP N q at' way)) ∧ Below w.heap.size w w'
/-- A struct of three zeros that was made, none of its cells frozen. -/
abbrev Zero3 (w : World) (b : Nat) : Prop := (w.cell? ⟨b, 0, none⟩ = some (.int .i64 0) ∧ w.cell? ⟨b, 1, none⟩ = some (.int .i64 0) ∧ w.cell? ⟨b, 2, none⟩ = some (.int .i64 0)) ∧ w.frozen? ⟨b, 0, none⟩ = false ∧ w.frozen? ⟨b, 1, none⟩ = false ∧ w.frozen? ⟨b, 2, none⟩ = false
theorem Zero3.new (w : World) (T : TypeId) : Zero3 (w.alloc (.cells #[.int .i64 0, .int .i64 0, .int .i64 0] T)) w.heap.size :=
  ⟨⟨by simp [go_sem], by simp [go_sem], by simp [go_sem]⟩, by simp [go_sem], by simp [go_sem], by simp [go_sem]⟩
theorem Zero3.later {w w' : World} {b : Nat} (h : Zero3 w b) (hb : Below w.heap.size w w') : Zero3 w' b := by
  have hl := cell_lt h.1.1
  refine ⟨⟨cell_later' hb h.1.1, cell_later' hb h.1.2.1, cell_later' hb h.1.2.2⟩, ?_, ?_, ?_⟩
  · rw [hb.frozen (p := ⟨b, 0, none⟩) hl]; exact h.2.1
  · rw [hb.frozen (p := ⟨b, 1, none⟩) hl]; exact h.2.2.1
  · rw [hb.frozen (p := ⟨b, 2, none⟩) hl]; exact h.2.2.2
/-- What lies in a box of three. -/
abbrev In3 (w : World) (b : Nat) (x y z : Int) : Prop := w.cell? ⟨b, 0, none⟩ = some (.int .i64 x) ∧ w.cell? ⟨b, 1, none⟩ = some (.int .i64 y) ∧ w.cell? ⟨b, 2, none⟩ = some (.int .i64 z)
theorem In3.later {w w' : World} {b : Nat} {x y z : Int} (h : In3 w b x y z) (hb : Below w.heap.size w w') : In3 w' b x y z := ⟨cell_later' hb h.1, cell_later' hb h.2.1, cell_later' hb h.2.2⟩
theorem In3.put {w : World} {b : Nat} (h : Zero3 w b) (x y z : Int) : In3 (((w.setCell ⟨b, 0, none⟩ (.int .i64 x)).setCell ⟨b, 1, none⟩ (.int .i64 y)).setCell ⟨b, 2, none⟩ (.int .i64 z)) b x y z := by
  obtain ⟨⟨h0, h1, h2⟩, _⟩ := h
  exact ⟨by simp [go_sem, h0], by simp [go_sem, h1], by simp [go_sem, h2]⟩
theorem keepSet {w w1 w2 : World} {v0 v1 : Value} {q at' way : Int} {b : Nat} (h : LS w w1 w2 v0 v1 q at' way) (hb : w1.heap.size ≤ b) (hz : w.heap.size + 1 < w1.heap.size) (x y z : Value) :
    LS w w1 (((w2.setCell ⟨b, 0, none⟩ x).setCell ⟨b, 1, none⟩ y).setCell ⟨b, 2, none⟩ z) v0 v1 q at' way := by
  obtain ⟨⟨h0, h1, h2, h3, h4⟩, hB⟩ := h
  have e : ∀ (W : World) (o : Nat) (v : Value) (B i : Nat) (u : Value), B < b → W.cell? ⟨B, i, none⟩ = some u → (W.setCell ⟨b, o, none⟩ v).cell? ⟨B, i, none⟩ = some u := fun W o v B i u hB hu => by
    rw [World.cell?_setCell_far W ⟨b, o, none⟩ ⟨B, i, none⟩ v (by show b ≠ B; omega)]; exact hu
  exact ⟨⟨e _ _ _ _ _ _ (by omega) (e _ _ _ _ _ _ (by omega) (e _ _ _ _ _ _ (by omega) h0)), e _ _ _ _ _ _ (by omega) (e _ _ _ _ _ _ (by omega) (e _ _ _ _ _ _ (by omega) h1)), e _ _ _ _ _ _ (by omega) (e _ _ _ _ _ _ (by omega) (e _ _ _ _ _ _ (by omega) h2)), e _ _ _ _ _ _ (by omega) (e _ _ _ _ _ _ (by omega) (e _ _ _ _ _ _ (by omega) h3)), e _ _ _ _ _ _ (by omega) (e _ _ _ _ _ _ (by omega) (e _ _ _ _ _ _ (by omega) h4))⟩, ((hB.out.setCell hb _).setCell hb _).setCell hb _⟩
theorem keepSet2 {w w1 w2 : World} {v0 v1 u0 u1 : Value} {q at' way : Int} {b c : Nat} (h : LS2 w w1 w2 v0 v1 q at' way c u0 u1) (hb : w1.heap.size ≤ b) (hz : w.heap.size + 1 < w1.heap.size) (hc : c < w1.heap.size) (x y z : Value) :
    LS2 w w1 (((w2.setCell ⟨b, 0, none⟩ x).setCell ⟨b, 1, none⟩ y).setCell ⟨b, 2, none⟩ z) v0 v1 q at' way c u0 u1 := by
  have e : ∀ (W : World) (o : Nat) (v : Value) (B i : Nat) (u : Value), B < b → W.cell? ⟨B, i, none⟩ = some u → (W.setCell ⟨b, o, none⟩ v).cell? ⟨B, i, none⟩ = some u := fun W o v B i u hB hu => by
    rw [World.cell?_setCell_far W ⟨b, o, none⟩ ⟨B, i, none⟩ v (by show b ≠ B; omega)]; exact hu
  exact ⟨keepSet h.1 hb hz x y z, e _ _ _ _ _ _ (by omega) (e _ _ _ _ _ _ (by omega) (e _ _ _ _ _ _ (by omega) h.2.1)), e _ _ _ _ _ _ (by omega) (e _ _ _ _ _ _ (by omega) (e _ _ _ _ _ _ (by omega) h.2.2))⟩
end Go.Proofs.YtijdigdcmjdooaaGreat

/- impl.SpotOk, impl.Turn. Own work. -/
namespace Go.Proofs.YtijdigdcmjdooaaGreat
open Go.RowKit Go.Sort
set_option maxHeartbeats 4000000

theorem inRange_b {x a b : Int} {r : Bool} (h : inR x a b = r) (w : World) : Calls Tryz.prog 26 #[.int .i64 x, .int .i64 a, .int .i64 b] w fun e w' =>
    e = .returned (.bool r) ∧ w = w' := (inRange_any x a b w).mono fun _ _ h' => ⟨by rw [h'.1, h], h'.2⟩
theorem inRange_q {x a b : Int} {r : Bool} (h : inR x a b = r) (w : World) (d : Nat) (os : Array Obj) : Calls Tryz.prog 26 #[.int .i64 x, .int .i64 a, .int .i64 b] (grow (redrawn w d) os) fun e w'' =>
    e = .returned (.bool r) ∧ ∃ p : Regrown, w'' = grow (redrawn w p.d) p.os := Calls.regrown_of ((inRange_b h _).mono fun _ _ h' => ⟨h'.1, h'.2 ▸ Below.refl _ _⟩)
theorem implNetOk_q (a a' : Option Addr) (N : Nt) (cap cap' : Nat) (w : World) {x y : Int} (hr : netOk N = (x, y)) (hn : N.pcs.length ≤ 1048576) (hs : ∀ p ∈ N.pcs, p.name.size ≤ 1048576) (hl : N.jts.length ≤ 1048576) (hm : ∀ j ∈ N.jts, j.name.size ≤ 1048576 ∧ j.ends.length ≤ 1048576) (hp : PcsAt w a N.pcs) (hj : JtsAt w a' N.jts) (d : Nat) (os : Array Obj) :
    Calls Tryz.prog 56 #[.agg #[.slice a N.pcs.length cap, .slice a' N.jts.length cap']] (grow (redrawn w d) os) fun e w'' =>
    e = .returned (.agg #[.int .i64 x, .int .i64 y]) ∧ ∃ p : Regrown, w'' = grow (redrawn w p.d) p.os :=
  Calls.regrown_of ((implNetOk_any a a' N cap cap' _ hn hs hl hm (hp.later (below_regrown w d os)) (hj.later (below_regrown w d os))).mono fun _ _ h' => ⟨by rw [h'.1, hr], h'.2⟩)

theorem implSpotOk_any : SpotOkDone := by
  intro a a' N cap cap' q at' way w _ hn hs hl hm hp hj
  have HS := hide hs
  have HM := hide hm
  have HP := hide hp
  have HJ := hide hj
  clear hs hm hp hj
  have hbW : Below w.heap.size w ((w.alloc (.cells #[.slice a N.pcs.length cap, .slice a' N.jts.length cap'] 26)).alloc (.cells #[.int .i64 q, .int .i64 at', .int .i64 way] 29)) := ((Below.refl _ _).alloc (Nat.le_refl _) _).alloc (by simp) _
  have hLS : LS w w ((w.alloc (.cells #[.slice a N.pcs.length cap, .slice a' N.jts.length cap'] 26)).alloc (.cells #[.int .i64 q, .int .i64 at', .int .i64 way] 29)) (.slice a N.pcs.length cap) (.slice a' N.jts.length cap') q at' way :=
    ⟨⟨by simp [go_sem], by simp [go_sem], by simp [go_sem], by simp [go_sem], by simp [go_sem]⟩, hbW⟩
  clear hbW
  go_enter Tryz.func25, Tryz.ntmps25
  go_upto_region 1 with fail
  generalize ((w.alloc (.cells #[.slice a N.pcs.length cap, .slice a' N.jts.length cap'] 26)).alloc (.cells #[.int .i64 q, .int .i64 at', .int .i64 way] 29)) = w1 at *
  obtain ⟨⟨t0, t1, e0, e1, e2⟩, hB⟩ := hLS
  have k0 := cell_regrown t0
  have k1 := cell_regrown t1
  have k2 := cell_regrown e0
  have k3 := cell_regrown e1
  have k4 := cell_regrown e2
  have HP1 := hide (HP.out.later hB.out)
  have HJ1 := hide (HJ.out.later hB.out)
  clear t0 t1 e0 e1 e2
  by_cases hr : netOk N = (0, 0)
  · have HR := hide hr
    clear hr
    cases h1 : inR q 0 ((N.pcs.length : Int) - 1)
    · have H1 := hide h1
      clear h1
      refine wp_region_quiet_below (by kernel_rfl) (by kernel_rfl) ?_
      repeat (go_big_quiet_step (first
        | exact implNetOk_q a a' N _ _ _ HR.out hn HS.out hl HM.out HP1.out HJ1.out _ _
        | with_reducible exact inRange_q H1.out _ _ _))
      refine wpQuiet_nil ?_
      intro _ hw'
      obtain ⟨⟨dq, osq⟩, hw''⟩ := hw'
      subst hw''
      go_wp2_with fail
      go_ret
      exact ⟨ret_b (by simp [spotOkP, spotP, H1.out]), hB.out.trans ((below_regrown w1 dq osq).mono hB.out.size)⟩
    · have H1 := hide h1
      have hq : 0 ≤ q ∧ q < (N.pcs.length : Int) := by simp [inR] at h1; omega
      clear h1
      obtain ⟨k, rfl⟩ := Int.eq_ofNat_of_zero_le hq.1
      have hk : k < N.pcs.length := by omega
      have hki : (k : Int) < (N.pcs.length : Int) := hq.2
      obtain ⟨b, off, rfl, c0, c1, c2, c3⟩ := HP1.out k hk
      have k5 := cell_regrown c1
      have HLEN := hide (show lenAt N (k : Int) = N.pcs[k].len by simp [lenAt, hk])
      clear c0 c1 c2 c3 hq
      cases h2 : inR at' 0 N.pcs[k].len
      · have H2 := hide h2
        clear h2
        refine wp_region_quiet_below (by kernel_rfl) (by kernel_rfl) ?_
        repeat (go_big_quiet_step (first
          | exact implNetOk_q _ a' N _ _ _ HR.out hn HS.out hl HM.out HP1.out HJ1.out _ _
          | with_reducible exact inRange_q H1.out _ _ _
          | with_reducible exact inRange_q H2.out _ _ _))
        refine wpQuiet_nil ?_
        intro _ hw'
        obtain ⟨⟨dq, osq⟩, hw''⟩ := hw'
        subst hw''
        go_wp2_with fail
        go_ret
        exact ⟨ret_b (by simp [spotOkP, spotP, H1.out, HLEN.out, H2.out]), hB.out.trans ((below_regrown w1 dq osq).mono hB.out.size)⟩
      · have H2 := hide h2
        clear h2
        by_cases hw1 : way = 1
        · subst hw1
          refine wp_region_quiet_below (by kernel_rfl) (by kernel_rfl) ?_
          repeat (go_big_quiet_step (first
            | exact implNetOk_q _ a' N _ _ _ HR.out hn HS.out hl HM.out HP1.out HJ1.out _ _
            | with_reducible exact inRange_q H1.out _ _ _
            | with_reducible exact inRange_q H2.out _ _ _))
          refine wpQuiet_nil ?_
          intro _ hw'
          obtain ⟨⟨dq, osq⟩, hw''⟩ := hw'
          subst hw''
          go_wp2_with fail
          go_ret
          exact ⟨ret_b (by simp [spotOkP, spotP, HR.out, H1.out, HLEN.out, H2.out]), hB.out.trans ((below_regrown w1 dq osq).mono hB.out.size)⟩
        · have q1 : (way == 1) = false := by rw [beq_eq_false_iff_ne]; exact hw1
          have HQ1 := hide q1
          generalize hv : (way == -1) = v2
          have HV := hide hv
          clear hw1
          refine wp_region_quiet_below (by kernel_rfl) (by kernel_rfl) ?_
          repeat (go_big_quiet_step (first
            | exact implNetOk_q _ a' N _ _ _ HR.out hn HS.out hl HM.out HP1.out HJ1.out _ _
            | with_reducible exact inRange_q H1.out _ _ _
            | with_reducible exact inRange_q H2.out _ _ _))
          refine wpQuiet_nil ?_
          intro _ hw'
          obtain ⟨⟨dq, osq⟩, hw''⟩ := hw'
          subst hw''
          go_wp2_with fail
          go_ret
          exact ⟨ret_b (by rw [spotOkP, spotP, HR.out, H1.out, HLEN.out, H2.out, HQ1.out, HV.out]; cases v2 <;> rfl), hB.out.trans ((below_regrown w1 dq osq).mono hB.out.size)⟩
  · obtain ⟨x, y, hxy⟩ : ∃ x y, netOk N = (x, y) := ⟨_, _, rfl⟩
    have hx : (x == 0) = false := by
      have := @netOk_code N
      rw [hxy] at this
      rw [this, decide_eq_false_iff_not, ← hxy]
      exact hr
    have HR := hide hr
    have HXY := hide hxy
    clear hr hxy
    refine wp_region_quiet_below (by kernel_rfl) (by kernel_rfl) ?_
    repeat (go_big_quiet_step (first
      | exact implNetOk_q a a' N _ _ _ HXY.out hn HS.out hl HM.out HP1.out HJ1.out _ _))
    refine wpQuiet_nil ?_
    intro _ hw'
    obtain ⟨⟨dq, osq⟩, hw''⟩ := hw'
    subst hw''
    go_wp2_with fail
    go_ret
    exact ⟨ret_b (by simp [spotOkP, HR.out]), hB.out.trans ((below_regrown w1 dq osq).mono hB.out.size)⟩
end Go.Proofs.YtijdigdcmjdooaaGreat

/- The iterator over the lines of a text. Own work. -/
import Derived.Test.YtcodpnkfpmjleaaGreatDoorMxAY
import Derived.Test.YtcodpnkfpmjleaaGreatDoorRiN
import Derived.RecoverIn
import Derived.Stop.Asserts
import Derived.LaidEql
import Derived.Test.YtcodpnkfpmjleaaGreatDoorMxAR
import Derived.RangeFuncLeaves
import Derived.ControlIn
namespace Go.Proofs.YtcodpnkfpmjleaaGreatDoor
open Go.RowKit Go.Maps Go.Sort Go.Shelf
set_option maxHeartbeats 8000000
set_option maxRecDepth 100000

theorem splitSeq_any (t : Bl) (w : World) : Calls Tryz.prog 64 #[.string (sb t), .string ⟨#[10]⟩] w fun e w' => e = .returned (.func (.func 122) #[] #[.pointer (some ⟨w.heap.size + 1, 0, none⟩), .pointer (some ⟨w.heap.size, 0, none⟩), .pointer (some ⟨w.heap.size + 2, 0, none⟩)]) ∧ w' = ((w.alloc (.cells #[.string (sb t)] 9)).alloc (.cells #[.string ⟨#[10]⟩] 9)).alloc (.cells #[.int .i64 0] 3) := by
  have hmf : ∀ fn first cap w, (Instr.makeFunc fn first cap).run Tryz.prog w = .ok (.func fn first cap) w := fun _ _ _ _ => rfl
  have hin : Calls Tryz.prog 99 #[.string (sb t), .string ⟨#[10]⟩, .int .i64 0] w fun e w' => e = .returned (.func (.func 122) #[] #[.pointer (some ⟨w.heap.size + 1, 0, none⟩), .pointer (some ⟨w.heap.size, 0, none⟩), .pointer (some ⟨w.heap.size + 2, 0, none⟩)]) ∧ w' = ((w.alloc (.cells #[.string (sb t)] 9)).alloc (.cells #[.string ⟨#[10]⟩] 9)).alloc (.cells #[.int .i64 0] 3) := by
    go_enter Tryz.func99, Tryz.ntmps99
    go_wp2_with fail
    go_ret
    exact ⟨rfl, rfl⟩
  go_enter Tryz.func64, Tryz.ntmps64
  go_wp2_with (go_at_call 99; refine hin.mono ?_; rintro e w2 ⟨rfl, hw2⟩; subst hw2)
  go_ret
  exact ⟨rfl, rfl⟩
/-- Three boxes stay. -/
def Stay3 (Bp Bt Bv : Nat) (W W' : World) : Prop := W'.heap[Bp]? = W.heap[Bp]? ∧ W'.heap[Bt]? = W.heap[Bt]? ∧ W'.heap[Bv]? = W.heap[Bv]?
/-- What the iterator holds between two lines. -/
structure SpB (Bp Bt Bv : Nat) (rest : Bl) (W : World) : Prop where
  p : W.cell? ⟨Bp, 0, none⟩ = some (.string ⟨#[10]⟩)
  t : W.cell? ⟨Bt, 0, none⟩ = some (.string (sb rest))
  v : W.cell? ⟨Bv, 0, none⟩ = some (.int .i64 0)
  f : W.frozen? ⟨Bt, 0, none⟩ = false
theorem SpB.stay {Bp Bt Bv : Nat} {rest : Bl} {W W' : World} (h : SpB Bp Bt Bv rest W) (hs : Stay3 Bp Bt Bv W W') : SpB Bp Bt Bv rest W' :=
  ⟨(World.cell?_of_block (a := ⟨Bp, 0, none⟩) hs.1).trans h.p, (World.cell?_of_block (a := ⟨Bt, 0, none⟩) hs.2.1).trans h.t, (World.cell?_of_block (a := ⟨Bv, 0, none⟩) hs.2.2).trans h.v, (World.frozen?_of_block (a := ⟨Bt, 0, none⟩) hs.2.1).trans h.f⟩
theorem SpB.later {Bp Bt Bv : Nat} {rest : Bl} {W W' : World} (h : SpB Bp Bt Bv rest W) (hb : Below W.heap.size W W') : SpB Bp Bt Bv rest W' :=
  h.stay ⟨hb.block _ (cell_lt h.p), hb.block _ (cell_lt h.t), hb.block _ (cell_lt h.v)⟩
theorem SpB.set {Bp Bt Bv : Nat} {rest : Bl} {W : World} (h : SpB Bp Bt Bv rest W) (h1 : Bp ≠ Bt) (h2 : Bv ≠ Bt) (r2 : Bl) : SpB Bp Bt Bv r2 (W.setCell ⟨Bt, 0, none⟩ (.string (sb r2))) :=
  ⟨(World.cell?_setCell_other _ _ _ _ (fun e => h1 (by cases e; rfl))).trans h.p, World.cell?_setCell_same _ _ _ h.t, (World.cell?_setCell_other _ _ _ _ (fun e => h2 (by cases e; rfl))).trans h.v, (World.frozen?_setCell _ _ _ _).trans h.f⟩
def atBox (W : World) (B : Nat) : Nat := strLen ((W.cell? ⟨B, 0, none⟩).getD undef)
theorem atBox_of {W : World} {B : Nat} {rest : Bl} (h : W.cell? ⟨B, 0, none⟩ = some (.string (sb rest))) : atBox W B = rest.length := by
  unfold atBox
  rw [h]
  exact sb_size rest
theorem splitIt_in (n : Nat) (hn : 1 ≤ n) (l Bp Bt Bv : Nat) (hpt : Bp ≠ Bt) (hvt : Bv ≠ Bt) (text : Bl) (hl : text.length ≤ 1048576) (J : List Bl → World → Prop) (Jp : List PanicEntry → World → Prop)
    (hJ : ∀ pre W W', J pre W → On (· = Bt) W W' → J pre W')
    (hY : ∀ pre x post W, pre ++ x :: post = linesL text → J pre W → YieldAt Fence.wide (n - 1) Tryz.prog l #[.string (sb x)] W fun e W' => (e = .returned (.bool true) ∧ J (pre ++ [x]) W' ∧ Stay3 Bp Bt Bv W W') ∨ (∃ c, e = .panicked c ∧ Jp c W'))
    (W : World) (hB : SpB Bp Bt Bv text W) (h0 : J [] W) :
    CallsIn Fence.wide n Tryz.prog 122 #[.func (.yield l) #[] #[], .pointer (some ⟨Bp, 0, none⟩), .pointer (some ⟨Bt, 0, none⟩), .pointer (some ⟨Bv, 0, none⟩)] W fun e W' => ((∃ v, e = .returned v) ∧ J (linesL text) W') ∨ (∃ c, e = .panicked c ∧ Jp c W') := by
  have HJ := hide hJ
  have H0 := hide h0
  have HY := hide hY
  have HB := hide hB
  have bp := hB.p
  have hlb := cell_lt bp
  clear hJ h0 hY hB
  refine callsIn_of_wp Tryz.func122 rfl trivial ?_ rfl
  simp only [Tryz.ntmps122, List.size_toArray, List.length_cons, List.length_nil, Nat.reduceAdd, Nat.reduceSub, Array.replicate_succ, Array.replicate_zero, List.push_toArray, List.append_toArray, List.nil_append, List.cons_append]
  gi_wp2_with fail
  gi_loopw [7, 8] (fun _ _ wr => ∃ (pre : List Bl) (rest : Bl), rest.length ≤ text.length ∧ Hid (SpB Bp Bt Bv rest wr) ∧ Hid (pre ++ linesL rest = linesL text) ∧ Hid (J pre wr)) (fun _ _ wr => atBox wr Bt)
  case atStart => exact ⟨[], text, Nat.le_refl _, HB, rfl, H0⟩
  case round =>
    clear HB H0 bp hlb
    obtain ⟨pre, rest, hle, HB, HL, HJp⟩ := hrel
    rename World => wr
    have bp := HB.out.p
    have bt := HB.out.t
    have bv := HB.out.v
    have hlp := cell_lt bp
    have hlt := cell_lt bt
    have hlv := cell_lt bv
    gi_wp2_with fail
    refine ⟨trivial, (callsIn_wide.2 (index_any rest _)).mono ?_⟩
    rintro e w2 ⟨rfl, hb2⟩
    have HB2 := hide (HB.out.later hb2)
    have HJ2 := hide (HJ.out pre _ _ HJp.out (On.of_below hb2))
    have HAT := hide (atBox_of bt)
    clear hb2 bp bt bv hlp hlt hlv HB HJp
    have bp := HB2.out.p
    have bt := HB2.out.t
    have bv := HB2.out.v
    have ft := HB2.out.f
    have hlp := cell_lt bp
    have hlt := cell_lt bt
    have hlv := cell_lt bv
    rcases lines_idx rest with ⟨hix, hls⟩ | ⟨a, b, hab, hix, hls⟩
    · rw [hix]
      have HLS := hide (show pre ++ rest :: [] = linesL text by rw [← HL.out, hls])
      obtain ⟨fn, tmps, assign, body, hy, hRy⟩ := HY.out pre rest [] w2 HLS.out HJ2.out
      clear hix hls
      gi_wp2_with fail
      refine hRy.mono ?_
      rintro e w5 h5
      rcases h5 with ⟨rfl, hJ5, hs5⟩ | ⟨c, rfl, hJ5⟩
      · gi_wp2_with fail
        go_end0
        exact .inl ⟨⟨_, rfl⟩, by rw [← HLS.out]; exact hJ5⟩
      · exact ⟨rfl, .inr ⟨c, rfl, hJ5⟩⟩
    · rw [hix]
      have HLS := hide (show pre ++ a :: linesL b = linesL text by rw [← HL.out, hls])
      have hlen : rest.length = a.length + 1 + b.length := by rw [hab]; simp; omega
      obtain ⟨fn, tmps, assign, body, hy, hRy⟩ := HY.out pre a (linesL b) w2 HLS.out HJ2.out
      have HX1 := hide (show (sb rest).extract 0 a.length = sb a by rw [sb_take, hab]; simp)
      have HX2 := hide (show (sb rest).extract (a.length + 1) (sb rest).size = sb b by rw [sb_drop rest _ _ (sb_size rest), hab]; simp)
      rw [← HX1.out] at hy
      have hsz : (sb rest).size = a.length + 1 + b.length := by rw [sb_size]; exact hlen
      have hs1 : (a.length : Int) ≤ ((sb rest).size : Int) := by omega
      have hs2 : (a.length : Int) + 1 ≤ ((sb rest).size : Int) := by omega
      have hg0 : decide ((a.length : Int) < 0) = false := decide_eq_false (by omega)
      have HSZ := hide hsz
      have HLEN := hide hlen
      have hal : a.length ≤ 1048576 := by omega
      clear hix hls hab hsz hlen
      gi_wp2_with fail
      refine hRy.mono ?_
      rintro e w5 h5
      rcases h5 with ⟨rfl, hJ5, hs5⟩ | ⟨c, rfl, hJ5⟩
      · have HB5 := hide (HB2.out.stay hs5)
        have HJ5 := hide hJ5
        have HG5 := hide (show (pre ++ [a]) ++ linesL b = linesL text by rw [List.append_assoc]; exact HLS.out)
        clear hJ5 hs5 hy hRy bp bt bv ft hlp hlt hlv HB2 HJ2
        have bp := HB5.out.p
        have bt := HB5.out.t
        have bv := HB5.out.v
        have ft := HB5.out.f
        have hlp := cell_lt bp
        have hlt := cell_lt bt
        have hlv := cell_lt bv
        have HB6 := hide (HB5.out.set hpt hvt b)
        have HJ6 := hide (HJ.out _ _ _ HJ5.out (On.set w5 (S := (· = Bt)) (b := Bt) (o := 0) rfl (.string (sb b))))
        gi_wp2_with fail
        rw [HX2.out]
        go_roundw
        case rel => exact ⟨pre ++ [a], b, by have := HLEN.out; omega, HB6, HG5, HJ6⟩
        case measure => rw [atBox_of HB6.out.t, HAT.out]; have := HLEN.out; omega
      · exact ⟨rfl, .inr ⟨c, rfl, hJ5⟩⟩
end Go.Proofs.YtcodpnkfpmjleaaGreatDoor

/- What is deferred in readText. Own work. -/
namespace Go.Proofs.YtcodpnkfpmjleaaGreatDoor
open Go.RowKit Go.Maps Go.Sort Go.Shelf
set_option maxHeartbeats 8000000
set_option maxRecDepth 100000

theorem idle_in (n Bn Be : Nat) (w : World) :
    CallsDIn Fence.wide n Tryz.prog 62 #[.pointer (some ⟨Bn, 0, none⟩), .pointer (some ⟨Be, 0, none⟩)] .returning w fun e u' w' => (∃ v, e = .returned v) ∧ u' = .returning ∧ w' = w := by
  refine callsDIn_of_wpSIn Tryz.func62 rfl trivial fun c₀ cs hu => ?_
  simp only [Tryz.ntmps62, List.size_toArray, List.length_cons, List.length_nil, Nat.reduceAdd, Nat.reduceSub, Array.replicate_succ, Array.replicate_zero, List.push_toArray, List.append_toArray, List.nil_append, List.cons_append]
  apply wpSIn_seq
  apply wpSIn_region
  simp [wpOpsSIn, go_sem, recoverD, hu, Exit.thenS]
  refine wpSIn_of_wpIn rfl (wpIn_wide.2 ?_)
  go_wp2_with fail
  have hc : c₀ = { c₀ with mode := .returning } := by cases c₀; simp_all
  exact ⟨rfl, .returning, by rw [← hc], _, results_none rfl _ _ _, ⟨_, rfl⟩, rfl, rfl⟩
/-- What is told of a panic of ours. -/
def errV (code line : Int) : Value := .iface 81 (.agg #[.int .i64 code, .int .i64 line])
theorem leave_eq (code line : Int) : leaveV code line = .iface 125 (.agg #[errV code line]) := rfl
theorem left_in (n Bn Be : Nat) (code line : Int) (w : World) (u0 u1 u2 : Value) (n0 : w.cell? ⟨Bn, 0, none⟩ = some u0) (n1 : w.cell? ⟨Bn, 1, none⟩ = some u1) (e0 : w.cell? ⟨Be, 0, none⟩ = some u2) (fn : ∀ o, w.frozen? ⟨Bn, o, none⟩ = false) (fe : ∀ o, w.frozen? ⟨Be, o, none⟩ = false) (hne : Bn ≠ Be) :
    CallsDIn Fence.wide n Tryz.prog 62 #[.pointer (some ⟨Bn, 0, none⟩), .pointer (some ⟨Be, 0, none⟩)] (.panicking (leaveC code line)) w fun e u' w' => (∃ v, e = .returned v) ∧ u' = .panicking [{ v := leaveV code line, recovered := true }] ∧ w'.cell? ⟨Bn, 0, none⟩ = some (.slice none 0 0) ∧ w'.cell? ⟨Bn, 1, none⟩ = some (.slice none 0 0) ∧ w'.cell? ⟨Be, 0, none⟩ = some (errV code line) ∧ On (fun b => b = Bn ∨ b = Be) w w' := by
  have hta : ∀ W : World, (Instr.typeAssert (leaveV code line) 20 125 true).run Tryz.prog W = .ok (.tuple #[.agg #[errV code line], .bool true]) W := fun W => by kernel_rfl
  have hln := cell_lt n0
  have hle := cell_lt e0
  have f0 := fn 0
  have f1 := fn 1
  have f2 := fe 0
  refine callsDIn_of_wpSIn Tryz.func62 rfl trivial fun c₀ cs hu => ?_
  simp only [Tryz.ntmps62, List.size_toArray, List.length_cons, List.length_nil, Nat.reduceAdd, Nat.reduceSub, Array.replicate_succ, Array.replicate_zero, List.push_toArray, List.append_toArray, List.nil_append, List.cons_append]
  apply wpSIn_seq
  apply wpSIn_region
  simp [wpOpsSIn, go_sem, recoverD, hu, leaveC, Exit.thenS]
  refine wpSIn_of_wpIn rfl (wpIn_wide.2 ?_)
  rw [leave_eq] at hta ⊢
  simp only [errV] at hta ⊢
  have hb1 := bS0 w (.cells #[.iface 81 (.agg #[.int .i64 code, .int .i64 line])] 125)
  have x0 := new_cell w #[.iface 81 (.agg #[.int .i64 code, .int .i64 line])] 125 0 _ rfl
  have m0 := cell_later' hb1 n0
  have m1 := cell_later' hb1 n1
  have m2 := cell_later' hb1 e0
  have g0 : (w.alloc (.cells #[.iface 81 (.agg #[.int .i64 code, .int .i64 line])] 125)).frozen? ⟨Bn, 0, none⟩ = false := (hb1.frozen (p := ⟨Bn, 0, none⟩) hln).trans f0
  have g1 : (w.alloc (.cells #[.iface 81 (.agg #[.int .i64 code, .int .i64 line])] 125)).frozen? ⟨Bn, 1, none⟩ = false := (hb1.frozen (p := ⟨Bn, 1, none⟩) hln).trans f1
  have g2 : (w.alloc (.cells #[.iface 81 (.agg #[.int .i64 code, .int .i64 line])] 125)).frozen? ⟨Be, 0, none⟩ = false := (hb1.frozen (p := ⟨Be, 0, none⟩) hle).trans f2
  have HO1 := hide (On.of_below (S := fun b => b = Bn ∨ b = Be) hb1)
  go_upto_region 7 with fail
  have hlw : w.heap.size < (w.alloc (.cells #[.iface 81 (.agg #[.int .i64 code, .int .i64 line])] 125)).heap.size := by simp
  have hln2 : Bn < (w.alloc (.cells #[.iface 81 (.agg #[.int .i64 code, .int .i64 line])] 125)).heap.size := by simp; omega
  have hle2 : Be < (w.alloc (.cells #[.iface 81 (.agg #[.int .i64 code, .int .i64 line])] 125)).heap.size := by simp; omega
  have hnw : Bn ≠ w.heap.size := by omega
  have hew : Be ≠ w.heap.size := by omega
  clear n0 n1 e0 f0 f1 f2 hb1 fn fe
  generalize w.alloc (.cells #[.iface 81 (.agg #[.int .i64 code, .int .i64 line])] 125) = w1 at *
  generalize w.heap.size = bX at *
  go_region_law (fail)
  all_goals
    go_wp2_with fail
    refine ⟨rfl, _, rfl, _, results_none rfl _ _ _, ⟨_, rfl⟩, rfl, by simp [go_sem, m0], by simp [go_sem, m1], by simp [go_sem, m2], ?_⟩
    exact (((HO1.out.trans (On.of_below ((Below.refl w1.heap.size w1).drew))).trans (On.set _ (b := Bn) (o := 0) (.inl rfl) _)).trans (On.set _ (b := Bn) (o := 1) (.inl rfl) _)).trans (On.set _ (b := Be) (o := 0) (.inr rfl) _)
end Go.Proofs.YtcodpnkfpmjleaaGreatDoor

/- impl: what is wrong with a whole net. Own work. -/
namespace Go.Proofs.YtcodpnkfpmjleaaGreatDoor
open Go.RowKit Go.Maps Go.Sort Go.Shelf
set_option maxHeartbeats 8000000
set_option maxRecDepth 100000

/-- What wholeError tells. -/
def wholeV (N : Nt) : Value := if (netOk N).1 = 0 then .nilIface else if (netOk N).1 = 5 then errV 7 (netOk N).2 else errV 6 0
theorem wholeError_any (a a' : Option Addr) (N : Nt) (cap cap' : Nat) (w : World) (hn : N.pcs.length ≤ 1048576) (hs : ∀ p ∈ N.pcs, p.name.size ≤ 1048576) (hl : N.jts.length ≤ 1048576) (hm : ∀ j ∈ N.jts, j.name.size ≤ 1048576 ∧ j.ends.length ≤ 1048576) (hp : PcsAt w a N.pcs) (hj : JtsAt w a' N.jts) :
    Calls Tryz.prog 66 #[.agg #[.slice a N.pcs.length cap, .slice a' N.jts.length cap']] w fun e w' => e = .returned (wholeV N) ∧ Below w.heap.size w w' := by
  have hb1 := bS0 w (.cells #[.slice a N.pcs.length cap, .slice a' N.jts.length cap'] 26)
  have HC := hide (implNetOk_any a a' N cap cap' (w.alloc (.cells #[.slice a N.pcs.length cap, .slice a' N.jts.length cap'] 26)) hn hs hl hm (hp.later hb1) (hj.later hb1))
  have HB1 := hide hb1
  obtain ⟨c, x, hcx⟩ : ∃ c x, netOk N = (c, x) := ⟨_, _, rfl⟩
  rw [hcx] at HC
  have HV := hide (show wholeV N = if c = 0 then .nilIface else if c = 5 then errV 7 x else errV 6 0 by unfold wholeV; rw [hcx])
  clear hn hs hl hm hp hj hb1 hcx
  have hfin : ∀ (w2 : World), Below (w.alloc (.cells #[.slice a N.pcs.length cap, .slice a' N.jts.length cap'] 26)).heap.size (w.alloc (.cells #[.slice a N.pcs.length cap, .slice a' N.jts.length cap'] 26)) w2 → Below w.heap.size w (w2.alloc (.cells #[.int .i64 c, .int .i64 x] 37)) := fun w2 h => (chnB HB1.out h).alloc (chnB HB1.out h).size _
  by_cases h0 : c = 0
  · have HR := hide (show wholeV N = .nilIface by rw [HV.out, if_pos h0])
    subst h0
    go_enter Tryz.func66, Tryz.ntmps66
    go_wp2_with (go_at_call 14; refine HC.out.mono ?_; rintro e w2 ⟨rfl, hb2⟩)
    go_ret
    exact ⟨by rw [HR.out]; rfl, hfin w2 hb2⟩
  · have g0 : (c == 0) = false := by rw [beq_eq_false_iff_ne]; exact h0
    by_cases h5 : c = 5
    · have HR := hide (show wholeV N = errV 7 x by rw [HV.out, if_neg h0, if_pos h5])
      subst h5
      clear g0 h0
      go_enter Tryz.func66, Tryz.ntmps66
      go_wp2_with (go_at_call 14; refine HC.out.mono ?_; rintro e w2 ⟨rfl, hb2⟩)
      go_ret
      exact ⟨by rw [HR.out]; rfl, hfin w2 hb2⟩
    · have g5 : (c == 5) = false := by rw [beq_eq_false_iff_ne]; exact h5
      have HR := hide (show wholeV N = errV 6 0 by rw [HV.out, if_neg h0, if_neg h5])
      clear h0 h5
      go_enter Tryz.func66, Tryz.ntmps66
      go_wp2_with (go_at_call 14; refine HC.out.mono ?_; rintro e w2 ⟨rfl, hb2⟩)
      go_ret
      exact ⟨by rw [HR.out]; rfl, hfin w2 hb2⟩
end Go.Proofs.YtcodpnkfpmjleaaGreatDoor

/- Code of a function that is known, with a range over a function that may be left by a panic. Own work, along the lines of the library's laws. -/
namespace Go.Proofs.YtcodpnkfpmjleaaGreatDoor
open Go
variable {P : Program} {f : FuncId}

def wpF (f : FuncId) (P : Program) (c : Code) (Q : Exit → Act → World → Prop) (a : Act) (w : World) : Prop :=
  ∀ (b : Frame) (k : List Item) (cs : List Frame), b.fn = f → b.roundOf = none → ∃ e a' w', Q e a' w' ∧ ArrivesIn (Machine.fenced P Fence.wide) P (lone (b.atR a (.code c :: k)) cs w) b k cs e a' w'
section
variable {Q : Exit → Act → World → Prop} {a : Act} {w : World}
theorem wpF_of_wp {c : Code} (h : c.wp P Q a w) : wpF f P c Q a w := fun b k cs _ hro => (wpIn_wide (n := 0)).2 h b k cs hro trivial (room_wide _)
theorem wpF_seq {x y : Code} (h : wpF f P x (Exit.then (wpF f P y Q) Q) a w) : wpF f P (Code.seq x y) Q a w := by
  intro b k cs hb hro
  have h0 : (lone (b.atR a (.code (.seq x y) :: k)) cs w).fenced P Fence.wide := fenced_wide _ _
  obtain ⟨e, a₁, w₁, hq, harr⟩ := h b (.code y :: k) cs hb hro
  cases e with
  | normal =>
    obtain ⟨e₂, a₂, w₂, hq₂, harr₂⟩ := hq b k cs hb hro
    exact ⟨e₂, a₂, w₂, hq₂, .of_steps (.head h0 stepR_seq harr) harr₂⟩
  | exit id => exact ⟨_, a₁, w₁, hq, .of_steps (.one h0 stepR_seq) (.pass (x := .code y) rfl (fun _ _ => .inl (by simp)) harr)⟩
  | goto l => exact ⟨_, a₁, w₁, hq, .of_steps (.one h0 stepR_seq) (.pass (x := .code y) rfl (fun _ _ => .inl (by simp)) harr)⟩
  | ret => exact ⟨_, a₁, w₁, hq, .of_steps (.one h0 stepR_seq) (.pass (x := .code y) rfl (fun _ _ => .inl (by simp)) harr)⟩
  | panic ch => exact ⟨_, a₁, w₁, hq, .of_steps (.one h0 stepR_seq) (.pass (x := .code y) rfl (fun _ _ => .inl (by simp)) harr)⟩
  | outgrown => exact ⟨_, a₁, w₁, hq, .of_steps (.one h0 stepR_seq) (.pass (x := .code y) rfl (fun _ _ => .inl (by simp)) harr)⟩
/-- A block that is left at its end, or by a panic. -/
def calmQ (Q : Exit → Act → World → Prop) : Exit → Act → World → Prop
  | .normal, a, w => Q .normal a w
  | .panic c, a, w => Q (.panic c) a w
  | _, _, _ => False
theorem wpF_block {id : Nat} {c : Code} (h : wpF f P c (calmQ Q) a w) : wpF f P (Code.block id c) Q a w := by
  intro b k cs hb hro
  have h0 : (lone (b.atR a (.code (.block id c) :: k)) cs w).fenced P Fence.wide := fenced_wide _ _
  obtain ⟨e, a₁, w₁, hq, harr⟩ := h b (.inBlock id :: k) cs hb hro
  cases e with
  | normal => exact ⟨.normal, a₁, w₁, hq, .head h0 stepR_block (StepsIn.trans harr (.one (fenced_wide _ _) stepR_inBlock))⟩
  | exit id' => exact hq.elim
  | goto l => exact hq.elim
  | ret => exact hq.elim
  | panic ch => exact ⟨_, a₁, w₁, hq, .of_steps (.one h0 stepR_block) harr⟩
  | outgrown => exact hq.elim
/-- What is asked when the function that was ranged over has ended: no round leaves by a jump. -/
def rangeP (P : Program) (l : Nat) (Q : Exit → Act → World → Prop) (a' : Act) : Ending → World → Prop
  | .returned _, w₃ => ∃ w₄, (Instr.endLoop l).run P w₃ = .ok none w₄ ∧ Q .normal a' w₄
  | .panicked chain, w₃ => Q (.panic chain) a' w₃
  | .outgrown, _ => False
theorem wpF_range {n : Nat} {g : Operand} {ps : Array Tmp} {assign body : Code}
    (h : ∃ (l : Nat) (mark : List Deferred) (w₁ : World) (d : Deferred) (w₁' : World) (f' : FuncId) (args : Array Value) (w₂ : World),
      (Instr.enterLoop f a.tmps ps assign body none).run P w = .ok (l, mark) w₁ ∧
      (resolve a.eval (rangeCall g l) 0).run P w₁ = .ok d w₁' ∧
      (invoke d.target d.args).run P w₁' = .ok (.enter f' args) w₂ ∧
      CallsIn Fence.wide n P f' args w₂ (rangeP P l Q { a with defers := mark ++ a.defers })) :
    wpF f P (Code.rangeFunc g ps assign body) Q a w := by
  intro b k cs hb hro
  obtain ⟨l, mark, w₁, d, w₁', f', args, w₂, he, hres, hinv, hF, hcall⟩ := h
  rw [← hb, ← hro] at he
  have henter := stepR_rangeFunc (P := P) (b := b) (a := a) (k := k) (cs := cs) (w := w) he hres hinv
  obtain ⟨e, w₃, fr, hR, hsteps, hfn, hleave⟩ := hcall (b.atR { a with defers := mark ++ a.defers } (.inRangeFunc l :: k) :: cs) (room_wide _)
  cases e with
  | outgrown => exact hR.elim
  | returned v =>
    obtain ⟨w₄, hend, hj⟩ := hR
    refine ⟨.normal, _, w₄, hj, .head (fenced_wide _ _) henter (StepsIn.trans hsteps (.head (fenced_wide _ _) ?_ (.one (fenced_wide _ _) (stepR_endRangeFunc hend))))⟩
    rw [← finish_atR_inRangeFunc l v]; exact step_leave_returned hleave
  | panicked chain =>
    refine ⟨.panic chain, _, w₃, hR, .inRangeFunc l :: k, .head (fenced_wide _ _) henter (StepsIn.trans hsteps (.one (fenced_wide _ _) ?_))⟩
    rw [← Frame.raise_atR]; exact step_leave_panicked hleave
end
/-- A function's contract from its body. -/
theorem calls_of_wpF {n : Nat} {fn : Func} {c : Code} {args : Array Value} {w : World} {R : Ending → World → Prop}
    (hf : P.funcs[f]? = some fn) (hb : fn.body = some c)
    (h : wpF f P c (bodyPostM Fence.wide n P fn R) { tmps := args ++ Array.replicate (fn.ntmps - args.size) undef, defers := [] } w) : Calls P f args w R := by
  refine (callsIn_wide (n := n)).1 ⟨trivial, fun cs hr => ?_⟩
  have hF : Fence.wide.fn f := trivial
  let b : Frame := { (default : Frame) with fn := f, kind := .normal, roundOf := none }
  have henter : Frame.enter P f args .normal =
      b.atR { tmps := args ++ Array.replicate (fn.ntmps - args.size) undef, defers := [] } [.code c] := by
    simp [Frame.enter, Frame.atR, hf, hb, b]
  obtain ⟨e, a', w', hq, harr⟩ := h b [] cs rfl rfl
  rw [← henter] at harr
  cases e with
  | normal =>
    obtain ⟨e', w'', fr', hR, hs, hfn, hl⟩ := leaves_stepsInM a'.defers .returning w' { b.atR a' [] with mode := .returning } cs rfl rfl rfl hf rfl hF hr hq
    exact ⟨e', w'', fr', hR, ComesIn.of_steps (StepsIn.trans harr (.one (fenced_calm (fr := b.atR a' []) hF hr rfl) (stepR_end rfl))) hs, hfn, hl⟩
  | ret =>
    obtain ⟨todo, hs₀⟩ := harr.1 rfl
    obtain ⟨e', w'', fr', hR, hs, hfn, hl⟩ := leaves_stepsInM a'.defers .returning w' { b.atR a' todo with mode := .returning } cs rfl rfl rfl hf rfl hF hr hq
    exact ⟨e', w'', fr', hR, ComesIn.of_steps hs₀ hs, hfn, hl⟩
  | panic chain =>
    obtain ⟨todo, hs₀⟩ := harr
    obtain ⟨e', w'', fr', hR, hs, hfn, hl⟩ := leaves_stepsInM a'.defers (.panicking chain) w' { b.atR a' todo with mode := .panicking chain } cs rfl rfl rfl hf rfl hF hr hq
    exact ⟨e', w'', fr', hR, ComesIn.of_steps hs₀ hs, hfn, hl⟩
  | exit id => exact hq.elim
  | goto l => exact hq.elim
  | outgrown => exact ⟨.outgrown, w', b, hq, harr.resolve_left (by simp [b]), rfl, trivial⟩
end Go.Proofs.YtcodpnkfpmjleaaGreatDoor

/- impl: a round of readText. Own work. -/
namespace Go.Proofs.YtcodpnkfpmjleaaGreatDoor
open Go.RowKit Go.Maps Go.Sort Go.Shelf
set_option maxHeartbeats 8000000
set_option maxRecDepth 100000

def rtAssign : Code := (Code.region 5 #[{ dst := some 5, op := Op.assign (Operand.tmp 17), type := 9, pos := "l2_text.go:106", after := #[], guard := none }] false)
def rtBody : Code := (Code.block 1 ((Code.region 6 #[{ dst := some 18, op := Op.fieldAddr 129 (Operand.tmp 4) 0, type := 0, pos := "l2_text.go:107", after := #[], guard := none }, { dst := some 19, op := Op.load 3 (Operand.tmp 18), type := 3, pos := "l2_text.go:107", after := #[{ on := 0, ground := Ground.data }], guard := none }, { dst := some 20, op := Op.binOp BinOp.add 3 (Operand.tmp 19) (Operand.const (Value.int IntKind.i64 1)) 3, type := 3, pos := "l2_text.go:107", after := #[{ on := 1, ground := Ground.data }], guard := none }, { dst := some 21, op := Op.fieldAddr 129 (Operand.tmp 4) 0, type := 0, pos := "l2_text.go:107", after := #[{ on := 0, ground := Ground.phase }, { on := 1, ground := Ground.phase }, { on := 2, ground := Ground.phase }], guard := none }, { dst := none, op := Op.store 3 (Operand.tmp 21) (Operand.tmp 20), type := 0, pos := "l2_text.go:107", after := #[{ on := 3, ground := Ground.data }, { on := 2, ground := Ground.data }, { on := 0, ground := Ground.phase }, { on := 1, ground := Ground.phase }, { on := 2, ground := Ground.phase }], guard := none }] false).seq (Code.region 7 #[{ dst := some 22, op := Op.move (Operand.tmp 5), type := 9, pos := "l2_text.go:108", after := #[], guard := none }, { dst := some 23, op := Op.call { callee := Callee.value (Operand.func 65), args := #[Operand.tmp 4, Operand.tmp 22], argTypes := #[129, 9] }, type := 0, pos := "l2_text.go:108", after := #[{ on := 0, ground := Ground.data }], guard := none }] false)))
/-- What the other slots hold. -/
structure Xs where
  x0 : Value
  x2 : Value
  x3 : Value
  x6 : Value
  x7 : Value
  x8 : Value
  x9 : Value
  x10 : Value
  x11 : Value
  x12 : Value
  x13 : Value
  x14 : Value
  x15 : Value
  x16 : Value
def rtTmps (X : Xs) (br : Nat) (v5 v17 : Value) : Array Value := #[X.x0, undef, X.x2, X.x3, .pointer (some ⟨br, 0, none⟩), v5, X.x6, X.x7, X.x8, X.x9, X.x10, X.x11, X.x12, X.x13, X.x14, X.x15, X.x16, v17, undef, undef, undef, undef, undef, undef, undef, undef, undef, undef, undef]
def rtRec (X : Xs) (br D : Nat) (st : LoopState) (pend : Option Code) : Loop :=
  { state := st, pending := pend, fn := 27, tmps := rtTmps X br undef undef, params := #[17], assign := rtAssign, body := rtBody, defers := D }
/-- The two results' boxes. -/
structure NBo (Bn : Nat) (W : World) : Prop where
  n0 : W.cell? ⟨Bn, 0, none⟩ = some (.slice none 0 0)
  n1 : W.cell? ⟨Bn, 1, none⟩ = some (.slice none 0 0)
  e0 : W.cell? ⟨Bn + 1, 0, none⟩ = some .nilIface
  fn : ∀ o, W.frozen? ⟨Bn, o, none⟩ = false
  fe : ∀ o, W.frozen? ⟨Bn + 1, o, none⟩ = false
theorem NBo.on {S : Nat → Prop} {Bn : Nat} {W W' : World} (h : NBo Bn W) (ho : On S W W') (h0 : ¬ S Bn) (h1 : ¬ S (Bn + 1)) : NBo Bn W' :=
  ⟨ho.cell h0 h.n0, ho.cell h0 h.n1, ho.cell h1 h.e0, fun o => (ho.frozen (cell_lt h.n0) h0).trans (h.fn o), fun o => (ho.frozen (cell_lt h.e0) h1).trans (h.fe o)⟩
/-- Where all lies: A the first block of readText's own. -/
structure RtAt (w : World) (A : Nat) (X : Xs) (lines : List Bl) (T : Int × Int × Nt) (pre : List Bl) (W : World) : Prop where
  L : W.heap[A + 10]? = some (.loop (rtRec X (A + 5) (A + 9) .ready none))
  K : W.heap[A + 9]? = some (.deferred (some []))
  nb : NBo A W
  mx : MX W
  mlo : 1 < A
  below : Below A w W
  rd : ∃ pv jv ps js, RBk (A + 11) W (A + 5) pre.length pv jv ps js (A + 2) (A + 3) (A + 4) ∧ NSz ⟨ps, js.map (fun t : Jr => t.jt)⟩ pre.length ∧ JNm (js.map (fun t : Jr => t.jt)) ∧ readG ⟨ps, js.map (fun t : Jr => t.jt)⟩ pre.length (lines.drop pre.length) = T
/-- What is left where a round has panicked. -/
structure RtP (w : World) (A : Nat) (T : Int × Int × Nt) (c : List PanicEntry) (W : World) : Prop where
  K : W.heap[A + 9]? = some (.deferred (some []))
  nb : NBo A W
  below : Below A w W
  told : ∃ code line, c = leaveC code line ∧ T = (code, line, ⟨[], []⟩) ∧ code ≠ 0
theorem On.hold {S : Nat → Prop} {W W' : World} {b : Nat} {o : Obj} (h : On S W W') (hb : W.heap[b]? = some o) (hS : ¬ S b) : W'.heap[b]? = some o :=
  (h.block b (Array.getElem?_eq_some_iff.1 hb).1 hS).trans hb
theorem RtAt.on {w W W' : World} {A : Nat} {X : Xs} {lines : List Bl} {T : Int × Int × Nt} {pre : List Bl} (h : RtAt w A X lines T pre W) (ho : On (· = A + 6) W W') : RtAt w A X lines T pre W' := by
  have hA : A ≤ W.heap.size := by have := (Array.getElem?_eq_some_iff.1 h.L).1; omega
  obtain ⟨pv, jv, ps, js, h1, h2, h3, h4⟩ := h.rd
  obtain ⟨m, hm⟩ := h.mx
  have hml := h.mlo
  refine ⟨ho.hold h.L (by omega), ho.hold h.K (by omega), h.nb.on ho (by omega) (by omega), ⟨m, ho.cell (by omega) hm⟩, h.mlo, ho.below h.below (fun b e => by omega) hA, pv, jv, ps, js, ?_, h2, h3, h4⟩
  exact RBx.on h1 ho (by omega) (fun g hg e => by omega) (h1.pi.of_block (ho.block _ h1.pi.lt (by omega))) (h1.ei.of_block (ho.block _ h1.ei.lt (by omega))) (h1.si.of_block (ho.block _ h1.si.lt (by omega)))
theorem RBx.setLine {base br bp np be ne bn nn : Nat} {line : Int} {pv jv : Value} {ps pp : List Pc} {js : List Jr} {seen : List (Int × Int)} {names : List (List UInt8)} {w : World} (h : RBx base w br line pv jv ps js bp np pp be ne seen bn nn names) (line2 : Int) : RBx base (w.setCell ⟨br, 0, none⟩ (.int .i64 line2)) br line2 pv jv ps js bp np pp be ne seen bn nn names :=
  ⟨World.cell?_setCell_same _ _ _ h.c0, (box_set (by omega) _).trans h.c1, (box_set (by omega) _).trans h.c2, (box_set (by omega) _).trans h.c3, (box_set (by omega) _).trans h.c4, (box_set (by omega) _).trans h.c5, fun o => (World.frozen?_setCell _ _ _ _).trans (h.f o), ownsRow_setCell_below h.op h.lo.1 _, h.kr.setBelow h.lo.1 _,
    h.pi.of_block (Below.heap_setCell _ _ _ bp h.neP.symm), h.ei.of_block (Below.heap_setCell _ _ _ be h.neE.symm), h.si.of_block (Below.heap_setCell _ _ _ bn h.neN.symm), h.lo, h.dif, by rw [World.size_setCell]; exact h.hi⟩
theorem allEnds_bd {js : List Jt} (h : ∀ j ∈ js, j.ends.length ≤ 4) : (allEnds js).length ≤ 4 * js.length := by
  induction js with
  | nil => simp [allEnds]
  | cons j js ih =>
    have e : allEnds (j :: js) = j.ends ++ allEnds js := by simp [allEnds]
    rw [e, List.length_append, List.length_cons]
    have := h j List.mem_cons_self
    have := ih (fun k hk => h k (List.mem_cons_of_mem _ hk))
    omega
theorem namesJ_bd (js : List Jt) : (namesJ js).length ≤ js.length := by
  unfold namesJ
  rw [List.length_map]
  exact List.length_filter_le _ _
theorem NSz.line {N : Nt} {i : Nat} (h : NSz N i) (ws : List Bl) : NSz (lineL N ws).2 (i + 1) := by
  unfold lineL
  split
  · exact h.more
  · split
    · exact (h.piece _).1
    · exact (h.joint _).1
theorem JNm.line {N : Nt} (h : JNm N.jts) (ws : List Bl) : JNm (lineL N ws).2.jts := by
  unfold lineL
  split
  · exact h
  · split
    · exact h.piece _
    · exact h.joint _
theorem chg_low {base br bp np be ne bn nn b : Nat} {line : Int} {pv jv : Value} {ps pp : List Pc} {js : List Jr} {seen : List (Int × Int)} {names : List (List UInt8)} {w : World} (h : RBx base w br line pv jv ps js bp np pp be ne seen bn nn names) (hb : b < base) (h1 : b ≠ br) (h2 : b ≠ bp) (h3 : b ≠ be) (h4 : b ≠ bn) : ¬ Chg br bp be bn pv jv b := fun hC => by
  rcases hC with e | e | e | e | e | e
  · exact h1 e
  · exact h2 e
  · exact h3 e
  · exact h4 e
  · have := (h.op.lt b e).1; omega
  · have := (h.kr.own.lt b e).1; omega
theorem loop_c {r : Loop} : ∀ (cur : Array Value) (T : TypeId) (fz : Nat × Nat), Obj.loop r ≠ .cells cur T fz := fun _ _ _ h => by cases h
theorem loop_m {r : Loop} : ∀ (es : Array MapEntry) (clock : Nat), Obj.loop r ≠ .map es clock := fun _ _ h => by cases h
theorem On.putL (W : World) (k : Nat) (o : Obj) : On (· = k) W (W.putObj k o) := On.of_grown (grownBy_putObj_a _ _ _) (fun _ e => (Option.some.inj e).symm)
theorem rtYield (m : Nat) (w : World) (A : Nat) (X : Xs) (lines : List Bl) (T : Int × Int × Nt) (hll : lines.length ≤ 65537) (hlb : ∀ x ∈ lines, x.length ≤ 65536) (pre : List Bl) (x : Bl) (post : List Bl) (W : World) (he : pre ++ x :: post = lines) (h : RtAt w A X lines T pre W) :
    YieldAt Fence.wide m Tryz.prog (A + 10) #[.string (sb x)] W fun e W' => (e = .returned (.bool true) ∧ RtAt w A X lines T (pre ++ [x]) W' ∧ Stay3 (A + 7) (A + 6) (A + 8) W W') ∨ (∃ c, e = .panicked c ∧ RtP w A T c W') := by
  refine ⟨27, rtTmps X (A + 5) undef (.string (sb x)), rtAssign, rtBody, by simpa [rtRec, rtTmps] using run_yield (P := Tryz.prog) (args := #[.string (sb x)]) h.L rfl, roundIn_of_wpInP trivial Tryz.func27 ?_⟩
  unfold rtAssign rtTmps
  gi_wp2_with gi_round_op_a
  have hbr := run_beginRound (P := Tryz.prog) h.L rfl
  have hlW : A + 10 < W.heap.size := (Array.getElem?_eq_some_iff.1 h.L).1
  obtain ⟨pv, jv, ps, js, hR, hN, hJ, hG⟩ := h.rd
  have hxl : x ∈ lines := by rw [← he]; simp
  have hpl : pre.length < lines.length := by rw [← he]; simp
  have hdr : lines.drop pre.length = x :: lines.drop (pre.length + 1) := by rw [← he]; simp
  rw [hdr, readG] at hG
  obtain ⟨W2, hW2⟩ : ∃ W2, W.putObj (A + 10) (.loop { rtRec X (A + 5) (A + 9) .ready none with state := .busy }) = W2 := ⟨_, rfl⟩
  rw [hW2] at hbr
  refine ⟨W2, hbr, ?_⟩
  have hon2 : On (· = A + 10) W W2 := by rw [← hW2]; exact On.putL _ _ _
  have hL2 : W2.heap[A + 10]? = some (.loop { rtRec X (A + 5) (A + 9) .ready none with state := .busy }) := by rw [← hW2]; exact World.putObj_heap_same hlW
  have HR2 : Hid (RBk (A + 11) W2 (A + 5) pre.length pv jv ps js (A + 2) (A + 3) (A + 4)) := by rw [← hW2]; exact RBx.put hR h.L loop_c loop_m
  have c0 := HR2.out.c0
  have f0 := HR2.out.f 0
  have hl0 := cell_lt c0
  have hw1 : IntKind.i64.wrap ((pre.length : Int) + 1) = (pre.length : Int) + 1 := by rw [IntKind.wrap_i64]; omega
  have hon3 : On (fun b => b = A + 10 ∨ b = A + 5) W (W2.setCell ⟨A + 5, 0, none⟩ (.int .i64 ((pre.length : Int) + 1))) := (hon2.mono (fun b _ e => .inl e)).trans (On.set W2 (b := A + 5) (o := 0) (.inr rfl) _)
  have HO3 := hide hon3
  have HR3 := hide (RBx.setLine HR2.out ((pre.length : Int) + 1))
  have HL3 : Hid ((W2.setCell ⟨A + 5, 0, none⟩ (.int .i64 ((pre.length : Int) + 1))).heap[A + 10]? = some (.loop { rtRec X (A + 5) (A + 9) .ready none with state := .busy })) := (Below.heap_setCell _ _ _ (A + 10) (by show A + 10 ≠ A + 5; omega)).trans hL2
  have HK3 := hide (hon3.hold h.K (by omega))
  have HN3 := hide (h.nb.on hon3 (by omega) (by omega))
  have HM3 : Hid (MX (W2.setCell ⟨A + 5, 0, none⟩ (.int .i64 ((pre.length : Int) + 1)))) := by
    obtain ⟨m, hm⟩ := h.mx
    have := h.mlo
    exact ⟨m, hon3.cell (by omega) hm⟩
  have HB3 := hide (hon3.below h.below (fun b e => by omega) (by omega))
  clear hon2 hon3 hW2 hbr hL2
  have HG := hide hG
  have HN := hide hN
  have HJ := hide hJ
  have HH := hide h
  have hnp : ps.length ≤ 100000 := by have := hN.pcs; dsimp only at this; omega
  have hnj : js.length ≤ 100000 := by have := hN.jts; simp at this; omega
  have hne : (allEnds (js.map (fun t : Jr => t.jt))).length ≤ 500000 := by have h1 := allEnds_bd (fun j hj => (hN.jn j hj).2); have h2 := hN.jts; dsimp only at h1 h2; omega
  have hnn : (namesJ (js.map (fun t : Jr => t.jt))).length ≤ 100000 := by have h1 := namesJ_bd (js.map (fun t : Jr => t.jt)); have h2 := hN.jts; dsimp only at h2; omega
  have hx6 : x.length ≤ 65536 := hlb x hxl
  clear hG hN hJ h hR hdr
  unfold rtBody
  gi_wp2_with gi_round_op_a
  generalize W2.setCell ⟨A + 5, 0, none⟩ (.int .i64 ((pre.length : Int) + 1)) = W3 at *
  refine ⟨trivial, fun h => by simp [Fence.wide] at h, (CallsIn.inRound (A + 10) (callsIn_wide.2 (readLine_any (A + 5) (A + 11) (A + 2) (A + 3) (A + 4) x ((pre.length : Int) + 1) pv jv ps js W3 hx6 hnp hnj HJ.out hne hnn HM3.out HR3.out))).mono ?_⟩
  rintro e W4 ⟨h4, hon4⟩
  have nc : ∀ b, b < A + 11 → b ≠ A + 5 → b ≠ A + 2 → b ≠ A + 3 → b ≠ A + 4 → ¬ Chg (A + 5) (A + 2) (A + 3) (A + 4) pv jv b := fun b hb h1 h2 h3 h4 => chg_low HR3.out hb h1 h2 h3 h4
  have hK4 := hon4.hold HK3.out (nc _ (by omega) (by omega) (by omega) (by omega) (by omega))
  have hN4 := HN3.out.on hon4 (nc _ (by omega) (by omega) (by omega) (by omega) (by omega)) (nc _ (by omega) (by omega) (by omega) (by omega) (by omega))
  have hB4 : Below A w W4 := hon4.below HB3.out (fun b hC => by
    rcases Nat.lt_or_ge b A with hlt | hge
    · exact absurd hC (nc b (by omega) (by omega) (by omega) (by omega) (by omega))
    · exact hge) (by have := (Array.getElem?_eq_some_iff.1 HK3.out).1; omega)
  rcases h4 with ⟨hc, ⟨v4, rfl⟩, pv4, jv4, js4, hR4, hj4⟩ | ⟨hc, rfl⟩
  · have hG := HG.out
    rw [if_neg (by rw [hc]; simp)] at hG
    have hL4 := hon4.hold HL3.out (nc _ (by omega) (by omega) (by omega) (by omega) (by omega))
    have hl4 : A + 10 < W4.heap.size := (Array.getElem?_eq_some_iff.1 hL4).1
    have hst : Stay3 (A + 7) (A + 6) (A + 8) W W4 := ⟨(hon4.block _ (by have := HO3.out.size; omega) (nc _ (by omega) (by omega) (by omega) (by omega) (by omega))).trans (HO3.out.block _ (by omega) (by omega)), (hon4.block _ (by have := HO3.out.size; omega) (nc _ (by omega) (by omega) (by omega) (by omega) (by omega))).trans (HO3.out.block _ (by omega) (by omega)), (hon4.block _ (by have := HO3.out.size; omega) (nc _ (by omega) (by omega) (by omega) (by omega) (by omega))).trans (HO3.out.block _ (by omega) (by omega))⟩
    have hM4 : MX W4 := by
      obtain ⟨m, hm⟩ := HM3.out
      have := HH.out.mlo
      exact ⟨m, hon4.cell (nc _ (by omega) (by omega) (by omega) (by omega) (by omega)) hm⟩
    have HFIN : Hid (RtAt w A X lines T (pre ++ [x]) (W4.putObj (A + 10) (.loop (rtRec X (A + 5) (A + 9) .ready none)))) := by
      have ho5 := On.putL W4 (A + 10) (.loop (rtRec X (A + 5) (A + 9) .ready none))
      obtain ⟨m, hm⟩ := hM4
      have hml := HH.out.mlo
      refine ⟨World.putObj_heap_same hl4, ho5.hold hK4 (by omega), hN4.on ho5 (by omega) (by omega), ⟨m, ho5.cell (by omega) hm⟩, hml, ho5.below hB4 (fun b e => by omega) (by omega), pv4, jv4, (lineL ⟨ps, js.map (fun t : Jr => t.jt)⟩ (wordsL x)).2.pcs, js4, ?_, ?_, ?_, ?_⟩
      · rw [List.length_append, List.length_singleton]
        exact RBx.put hR4 hL4 loop_c loop_m
      · rw [hj4, List.length_append, List.length_singleton]
        exact HN.out.line _
      · rw [hj4]
        exact JNm.line HJ.out _
      · rw [hj4, List.length_append, List.length_singleton]
        exact hG
    have HST : Hid (Stay3 (A + 7) (A + 6) (A + 8) W (W4.putObj (A + 10) (.loop (rtRec X (A + 5) (A + 9) .ready none)))) := ⟨(World.putObj_heap_other (by omega)).trans hst.1, (World.putObj_heap_other (by omega)).trans hst.2.1, (World.putObj_heap_other (by omega)).trans hst.2.2⟩
    have HL4 := hide hL4
    clear hc hR4 hj4 hG hst hM4 hK4 hN4 hB4 hL4 hon4 nc
    gi_wp2_with gi_round_op_a
    exact ⟨_, _, run_endRound none HL4.out, .inl ⟨rfl, HFIN.out, HST.out⟩⟩
  · have hT : T = ((lineL ⟨ps, js.map (fun t : Jr => t.jt)⟩ (wordsL x)).1, (pre.length : Int) + 1, ⟨[], []⟩) := by
      have hG := HG.out
      rw [if_pos hc] at hG
      exact hG.symm
    exact ⟨rfl, .inr ⟨_, rfl, hK4, hN4, hB4, _, _, rfl, hT, hc⟩⟩
end Go.Proofs.YtcodpnkfpmjleaaGreatDoor

/- The plain data of a net, and how it lies in memory. Own work. -/
import Derived.WalkKit
import Derived.ProofKit
import Derived.Test.YtijdigdcmjdooaaGreatProg
import Derived.WalkLawsBesides
import Derived.WalkSpells
namespace Go.Proofs.YtijdigdcmjdooaaGreat
open Go.RowKit

theorem hide {p : Prop} (h : p) : Hid p := h

structure Pc where
  name : ByteArray
  len : Int
  speed : Int
  brake : Int

structure Jt where
  kind : Int
  name : ByteArray
  ends : List (Int × Int)

structure Nt where
  pcs : List Pc
  jts : List Jt

/-- An end whose numbers fit. -/
def Wf2 (e : Int × Int) : Prop := (Lit.int .i64 e.1).wf = true ∧ (Lit.int .i64 e.2).wf = true

abbrev vI (x : Int) : Value := .int .i64 x
def Pc.val (p : Pc) : Value := .agg #[.string p.name, .int .i64 p.len, .int .i64 p.speed, .int .i64 p.brake]

def EndsAt (w : World) (a : Option Addr) (es : List (Int × Int)) : Prop :=
  ∀ k (_ : k < es.length), ∃ b off, a = some ⟨b, off, none⟩ ∧ w.cell? ⟨b, off + k * 2, none⟩ = some (.int .i64 es[k].1) ∧ w.cell? ⟨b, off + k * 2 + 1, none⟩ = some (.int .i64 es[k].2)

def PcsAt (w : World) (a : Option Addr) (ps : List Pc) : Prop :=
  ∀ k (_ : k < ps.length), ∃ b off, a = some ⟨b, off, none⟩ ∧ w.cell? ⟨b, off + k * 4, none⟩ = some (.string ps[k].name) ∧ w.cell? ⟨b, off + k * 4 + 1, none⟩ = some (.int .i64 ps[k].len) ∧ w.cell? ⟨b, off + k * 4 + 2, none⟩ = some (.int .i64 ps[k].speed) ∧ w.cell? ⟨b, off + k * 4 + 3, none⟩ = some (.int .i64 ps[k].brake)

def JtsAt (w : World) (a : Option Addr) (js : List Jt) : Prop :=
  ∀ k (_ : k < js.length), ∃ b off e cap, a = some ⟨b, off, none⟩ ∧ w.cell? ⟨b, off + k * 3, none⟩ = some (.int .i64 js[k].kind) ∧ w.cell? ⟨b, off + k * 3 + 1, none⟩ = some (.string js[k].name) ∧ w.cell? ⟨b, off + k * 3 + 2, none⟩ = some (.slice e js[k].ends.length cap) ∧ EndsAt w e js[k].ends

theorem cell_lt {w : World} {b o : Nat} {v : Value} (h : w.cell? ⟨b, o, none⟩ = some v) : b < w.heap.size := by
  by_cases hb : b < w.heap.size
  · exact hb
  · have : w.heap[b]? = none := by simp; omega
    simp [World.cell?, this] at h

theorem cell_keep {w w' : World} {B b o : Nat} {v : Value} (hb : Below B w w') (hB : b < B) (h : w.cell? ⟨b, o, none⟩ = some v) : w'.cell? ⟨b, o, none⟩ = some v := by
  rw [hb.cell (p := ⟨b, o, none⟩) hB]; exact h

theorem cell_later' {w w' : World} {b o : Nat} {v : Value} (hb : Below w.heap.size w w') (h : w.cell? ⟨b, o, none⟩ = some v) : w'.cell? ⟨b, o, none⟩ = some v :=
  cell_keep hb (cell_lt h) h

theorem new_cell (w : World) (cs : Array Value) (T : TypeId) (i : Nat) (v : Value) (h : cs[i]? = some v) : (w.alloc (.cells cs T)).cell? ⟨w.heap.size, i, none⟩ = some v := by
  rw [World.cell?_alloc_at cs T _ i rfl, h]

theorem box_cell {w w1 : World} {cs : Array Value} {T : TypeId} (hb : Below (w.alloc (.cells cs T)).heap.size (w.alloc (.cells cs T)) w1) (i : Nat) (v : Value) (h : cs[i]? = some v) : w1.cell? ⟨w.heap.size, i, none⟩ = some v :=
  cell_keep hb (by simp) (new_cell w cs T i v h)

theorem bcell {W w1 : World} (hb : Below W.heap.size W w1) : (∀ b o, b < W.heap.size → w1.cell? ⟨b, o, none⟩ = W.cell? ⟨b, o, none⟩) ∧ (∀ b o, b < W.heap.size → w1.frozen? ⟨b, o, none⟩ = W.frozen? ⟨b, o, none⟩) :=
  ⟨fun b o h => hb.cell (p := ⟨b, o, none⟩) h, fun b o h => hb.frozen (p := ⟨b, o, none⟩) h⟩

theorem EndsAt.later {w w' : World} {a es} (h : EndsAt w a es) (hb : Below w.heap.size w w') : EndsAt w' a es := by
  intro k hk
  obtain ⟨b, off, ha, h1, h2⟩ := h k hk
  exact ⟨b, off, ha, cell_later' hb h1, cell_later' hb h2⟩

theorem PcsAt.later {w w' : World} {a ps} (h : PcsAt w a ps) (hb : Below w.heap.size w w') : PcsAt w' a ps := by
  intro k hk
  obtain ⟨b, off, ha, h1, h2, h3, h4⟩ := h k hk
  exact ⟨b, off, ha, cell_later' hb h1, cell_later' hb h2, cell_later' hb h3, cell_later' hb h4⟩

theorem JtsAt.later {w w' : World} {a js} (h : JtsAt w a js) (hb : Below w.heap.size w w') : JtsAt w' a js := by
  intro k hk
  obtain ⟨b, off, e, cap, ha, h1, h2, h3, h4⟩ := h k hk
  exact ⟨b, off, e, cap, ha, cell_later' hb h1, cell_later' hb h2, cell_later' hb h3, h4.later hb⟩
end Go.Proofs.YtijdigdcmjdooaaGreat

namespace Go.Proofs.YtijdigdcmjdooaaGreat
open Go.RowKit
set_option maxHeartbeats 400000

theorem Tryz.laidOut : laidOutB Tryz.prog = true := by kernel_rfl

theorem ret_i {a b : Int} (h : a = b) : Ending.returned (.int .i64 a) = .returned (.int .i64 b) := by rw [h]

theorem szPiece_any (s : ByteArray) (a b c left : Int) (w : World) (hs : s.size ≤ maxLen) (h0 : 0 ≤ left) (h1 : left ≤ 1048576) :
    Calls Tryz.prog 73 #[.agg #[.string s, .int .i64 a, .int .i64 b, .int .i64 c], .int .i64 left] w fun e w' =>
    ∃ r : Int, e = .returned (.int .i64 r) ∧ -1 ≤ r ∧ r ≤ left ∧ (0 ≤ r → s.size ≤ 1048576) ∧ Below w.heap.size w w' := by
  unfold maxLen at hs
  go_enter Tryz.func73, Tryz.ntmps73
  go_wp2
  all_goals go_ret
  · exact ⟨-1, rfl, by omega, by omega, by omega, (Below.refl _ _).alloc (Nat.le_refl _) _⟩
  · exact ⟨_, rfl, by omega, by omega, by omega, (Below.refl _ _).alloc (Nat.le_refl _) _⟩

theorem szEndS_any (a : Option Addr) (n cap : Nat) (left : Int) (w : World) (hn : n ≤ maxLen) (h0 : 0 ≤ left) (h1 : left ≤ 1048576) :
    Calls Tryz.prog 107 #[.slice a n cap, .int .i64 left] w fun e w' =>
    ∃ r : Int, e = .returned (.int .i64 r) ∧ -1 ≤ r ∧ r ≤ left ∧ (0 ≤ r → n ≤ 1048576) ∧ Below w.heap.size w w' := by
  unfold maxLen at hn
  go_enter Tryz.func107, Tryz.ntmps107
  go_wp2
  all_goals go_ret
  · exact ⟨-1, rfl, by omega, by omega, by omega, Below.refl _ _⟩
  · exact ⟨_, rfl, by omega, by omega, by omega, Below.refl _ _⟩

theorem szJoint_any (kind : Int) (s : ByteArray) (a : Option Addr) (n cap : Nat) (left : Int) (w : World) (hs : s.size ≤ maxLen) (hn : n ≤ maxLen) (h0 : 0 ≤ left) (h1 : left ≤ 1048576) :
    Calls Tryz.prog 74 #[.agg #[.int .i64 kind, .string s, .slice a n cap], .int .i64 left] w fun e w' =>
    ∃ r : Int, e = .returned (.int .i64 r) ∧ -1 ≤ r ∧ r ≤ left ∧ (0 ≤ r → n ≤ 1048576 ∧ s.size ≤ 1048576) ∧ Below w.heap.size w w' := by
  have hs' := hs
  unfold maxLen at hs'
  go_enter Tryz.func74, Tryz.ntmps74
  go_wp2_with fail
  · go_ret
    exact ⟨-1, rfl, by omega, by omega, by omega, (Below.refl _ _).alloc (Nat.le_refl _) _⟩
  · refine (szEndS_any a n cap _ _ hn (by omega) (by omega)).mono ?_
    rintro e w1 ⟨r, rfl, hr1, hr2, hr3, hb⟩
    have hb2 := ((Below.refl w.heap.size w).alloc (Nat.le_refl _) _).trans (hb.mono (by simp))
    go_wp2_with fail
    all_goals go_ret
    · exact ⟨-1, rfl, by omega, by omega, by omega, hb2⟩
    · exact ⟨r, rfl, by omega, by omega, by omega, hb2⟩

theorem szPieceS_any (a : Option Addr) (ps : List Pc) (cap : Nat) (left : Int) (w : World) (hn : ps.length ≤ maxLen) (hp : PcsAt w a ps) (hs : ∀ p ∈ ps, p.name.size ≤ maxLen) (h0 : 0 ≤ left) (h1 : left ≤ 1048576) :
    Calls Tryz.prog 45 #[.slice a ps.length cap, .int .i64 left] w fun e w' =>
    ∃ r : Int, e = .returned (.int .i64 r) ∧ -1 ≤ r ∧ r ≤ left ∧ (0 ≤ r → ps.length ≤ 1048576 ∧ ∀ p ∈ ps, p.name.size ≤ 1048576) ∧ Below w.heap.size w w' := by
  unfold maxLen at hn
  have HP : Hid (PcsAt w a ps) := hp
  have HS : Hid (∀ p ∈ ps, p.name.size ≤ maxLen) := hs
  clear hp hs
  go_enter Tryz.func45, Tryz.ntmps45
  go_wp2
  · go_ret
    exact ⟨-1, rfl, by omega, by omega, by omega, Below.refl _ _⟩
  · go_loopw [1, 5] (fun l i wr => ∃ (k : Nat) (lk : Int), k ≤ ps.length ∧ i = .int .i64 k ∧ l = .int .i64 lk ∧ 0 ≤ lk ∧ lk ≤ left ∧ (∀ j (_ : j < k) (hj : j < ps.length), ps[j].name.size ≤ 1048576) ∧ Below w.heap.size w wr) (fun _ i _ => ps.length - (intOf i).toNat)
    case atStart => exact ⟨0, left - ps.length, Nat.zero_le _, rfl, rfl, by omega, by omega, by intro j hj; omega, Below.refl _ _⟩
    case round =>
      obtain ⟨k, lk, hk, rfl, rfl, hlk0, hlk1, hnm, hb⟩ := hrel
      have HN := hide hnm
      clear hnm
      by_cases hlt : k < ps.length
      · obtain ⟨b, off, rfl, c0, c1, c2, c3⟩ := (PcsAt.later HP.out hb) k hlt
        go_wp2_with fail
        refine (szPiece_any _ _ _ _ _ _ (HS.out _ (List.getElem_mem hlt)) (by omega) (by omega)).mono ?_
        rintro e w1 ⟨r, rfl, hr1, hr2, hr3, hb1⟩
        have hb2 := hb.trans (hb1.mono hb.size)
        go_wp2_with fail
        · go_ret
          exact ⟨-1, rfl, by omega, by omega, by omega, hb2⟩
        · go_roundw
          case rel =>
            refine ⟨k + 1, r, by omega, by go_num, rfl, by omega, by omega, ?_, hb2⟩
            intro j hj hj'
            rcases Nat.lt_succ_iff_lt_or_eq.mp hj with h | h
            · exact HN.out j h hj'
            · subst h; exact hr3 (by omega)
          case measure => simp [intOf]; omega
      · go_wp2_with fail
        go_ret
        refine ⟨lk, rfl, by omega, by omega, fun _ => ⟨by omega, ?_⟩, hb⟩
        intro p hp
        obtain ⟨j, hj, rfl⟩ := List.getElem_of_mem hp
        exact HN.out j (by omega) hj

theorem szJointS_any (a : Option Addr) (js : List Jt) (cap : Nat) (left : Int) (w : World) (hn : js.length ≤ maxLen) (hp : JtsAt w a js) (hs : ∀ p ∈ js, p.name.size ≤ maxLen ∧ p.ends.length ≤ maxLen) (h0 : 0 ≤ left) (h1 : left ≤ 1048576) :
    Calls Tryz.prog 46 #[.slice a js.length cap, .int .i64 left] w fun e w' =>
    ∃ r : Int, e = .returned (.int .i64 r) ∧ -1 ≤ r ∧ r ≤ left ∧ (0 ≤ r → js.length ≤ 1048576 ∧ ∀ p ∈ js, p.name.size ≤ 1048576 ∧ p.ends.length ≤ 1048576) ∧ Below w.heap.size w w' := by
  unfold maxLen at hn
  have HP : Hid (JtsAt w a js) := hp
  have HS : Hid (∀ p ∈ js, p.name.size ≤ maxLen ∧ p.ends.length ≤ maxLen) := hs
  clear hp hs
  go_enter Tryz.func46, Tryz.ntmps46
  go_wp2
  · go_ret
    exact ⟨-1, rfl, by omega, by omega, by omega, Below.refl _ _⟩
  · go_loopw [1, 5] (fun l i wr => ∃ (k : Nat) (lk : Int), k ≤ js.length ∧ i = .int .i64 k ∧ l = .int .i64 lk ∧ 0 ≤ lk ∧ lk ≤ left ∧ (∀ j (_ : j < k) (hj : j < js.length), js[j].name.size ≤ 1048576 ∧ js[j].ends.length ≤ 1048576) ∧ Below w.heap.size w wr) (fun _ i _ => js.length - (intOf i).toNat)
    case atStart => exact ⟨0, left - js.length, Nat.zero_le _, rfl, rfl, by omega, by omega, by intro j hj; omega, Below.refl _ _⟩
    case round =>
      obtain ⟨k, lk, hk, rfl, rfl, hlk0, hlk1, hnm, hb⟩ := hrel
      have HN := hide hnm
      clear hnm
      by_cases hlt : k < js.length
      · obtain ⟨b, off, ea, ecap, rfl, c0, c1, c2, _⟩ := (JtsAt.later HP.out hb) k hlt
        go_wp2_with fail
        refine (szJoint_any _ _ _ _ _ _ _ (HS.out _ (List.getElem_mem hlt)).1 (HS.out _ (List.getElem_mem hlt)).2 (by omega) (by omega)).mono ?_
        rintro e w1 ⟨r, rfl, hr1, hr2, hr3, hb1⟩
        have hb2 := hb.trans (hb1.mono hb.size)
        go_wp2_with fail
        · go_ret
          exact ⟨-1, rfl, by omega, by omega, by omega, hb2⟩
        · go_roundw
          case rel =>
            refine ⟨k + 1, r, by omega, by go_num, rfl, by omega, by omega, ?_, hb2⟩
            intro j hj hj'
            rcases Nat.lt_succ_iff_lt_or_eq.mp hj with h | h
            · exact HN.out j h hj'
            · subst h; have := hr3 (by omega); exact ⟨this.2, this.1⟩
          case measure => simp [intOf]; omega
      · go_wp2_with fail
        go_ret
        refine ⟨lk, rfl, by omega, by omega, fun _ => ⟨by omega, ?_⟩, hb⟩
        intro p hp
        obtain ⟨j, hj, rfl⟩ := List.getElem_of_mem hp
        exact HN.out j (by omega) hj

theorem szNet_any (a a' : Option Addr) (N : Nt) (cap cap' : Nat) (left : Int) (w : World) (hn : N.pcs.length ≤ maxLen) (hp : PcsAt w a N.pcs) (hs : ∀ p ∈ N.pcs, p.name.size ≤ maxLen) (hn' : N.jts.length ≤ maxLen) (hp' : JtsAt w a' N.jts) (hs' : ∀ p ∈ N.jts, p.name.size ≤ maxLen ∧ p.ends.length ≤ maxLen) (h0 : 0 ≤ left) (h1 : left ≤ 1048576) :
    Calls Tryz.prog 14 #[.agg #[.slice a N.pcs.length cap, .slice a' N.jts.length cap'], .int .i64 left] w fun e w' =>
    ∃ r : Int, e = .returned (.int .i64 r) ∧ -1 ≤ r ∧ r ≤ left ∧ (0 ≤ r → (N.pcs.length ≤ 1048576 ∧ ∀ p ∈ N.pcs, p.name.size ≤ 1048576) ∧ (N.jts.length ≤ 1048576 ∧ ∀ p ∈ N.jts, p.name.size ≤ 1048576 ∧ p.ends.length ≤ 1048576)) ∧ Below w.heap.size w w' := by
  have HP := hide hp
  have HP' := hide hp'
  have HS := hide hs
  have HS' := hide hs'
  clear hp hs hp' hs'
  go_enter Tryz.func14, Tryz.ntmps14
  go_wp2_with fail
  have hb0 := ((Below.refl w.heap.size w).alloc (Nat.le_refl _) (.cells #[Value.slice a N.pcs.length cap, Value.slice a' N.jts.length cap'] 48))
  refine (szPieceS_any a N.pcs cap left _ hn (HP.out.later hb0) HS.out (by omega) (by omega)).mono ?_
  rintro e w1 ⟨r, rfl, hr1, hr2, hr3, hb1⟩
  have hb2 := hb0.trans (hb1.mono (by simp))
  have HR := hide hr3
  clear hr3
  have c0 := box_cell hb1 0 _ rfl
  have c1 := box_cell hb1 1 _ rfl
  by_cases hr : r < 0
  · go_wp2_with fail
    go_ret
    exact ⟨-1, rfl, by omega, by omega, by omega, hb2⟩
  · go_wp2_with fail
    refine (szJointS_any a' N.jts cap' r _ hn' (HP'.out.later hb2) HS'.out (by omega) (by omega)).mono ?_
    rintro e w2 ⟨r2, rfl, hq1, hq2, hq3, hb3⟩
    have hb4 := hb2.trans (hb3.mono hb2.size)
    have HR' := hide hq3
    clear hq3
    go_wp2_with fail
    all_goals go_ret
    · exact ⟨-1, rfl, by omega, by omega, by omega, hb4⟩
    · exact ⟨r2, rfl, by omega, by omega, fun _ => ⟨HR.out (by omega), HR'.out (by omega)⟩, hb4⟩
end Go.Proofs.YtijdigdcmjdooaaGreat

import Derived.Test.YtokhbnlpifmjkaaDoorProg
import Derived.Test.YtokhbnlpifmjkaaDoorData
import Derived.WalkLawsBesides
import Derived.WalkSpells
namespace Go.Proofs.YtokhbnlpifmjkaaDoor
open Go.RowKit
set_option maxHeartbeats 400000

theorem Tryd.laidOut : laidOutB Tryd.prog = true := by kernel_rfl

theorem ret_i {a b : Int} (h : a = b) : Ending.returned (.int .i64 a) = .returned (.int .i64 b) := by rw [h]

theorem szPiece_any (s : ByteArray) (a b c left : Int) (w : World) (hs : s.size ≤ maxLen) (h0 : 0 ≤ left) (h1 : left ≤ 1048576) :
    Calls Tryd.prog 22 #[.agg #[.string s, .int .i64 a, .int .i64 b, .int .i64 c], .int .i64 left] w fun e w' =>
    ∃ r : Int, e = .returned (.int .i64 r) ∧ -1 ≤ r ∧ r ≤ left ∧ (0 ≤ r → s.size ≤ 1048576) ∧ Below w.heap.size w w' := by
  unfold maxLen at hs
  go_enter Tryd.func22, Tryd.ntmps22
  go_wp2
  all_goals go_ret
  · exact ⟨-1, rfl, by omega, by omega, by omega, (Below.refl _ _).alloc (Nat.le_refl _) _⟩
  · exact ⟨_, rfl, by omega, by omega, by omega, (Below.refl _ _).alloc (Nat.le_refl _) _⟩

theorem szEndS_any (a : Option Addr) (n cap : Nat) (left : Int) (w : World) (hn : n ≤ maxLen) (h0 : 0 ≤ left) (h1 : left ≤ 1048576) :
    Calls Tryd.prog 40 #[.slice a n cap, .int .i64 left] w fun e w' =>
    ∃ r : Int, e = .returned (.int .i64 r) ∧ -1 ≤ r ∧ r ≤ left ∧ (0 ≤ r → n ≤ 1048576) ∧ Below w.heap.size w w' := by
  unfold maxLen at hn
  go_enter Tryd.func40, Tryd.ntmps40
  go_wp2
  all_goals go_ret
  · exact ⟨-1, rfl, by omega, by omega, by omega, Below.refl _ _⟩
  · exact ⟨_, rfl, by omega, by omega, by omega, Below.refl _ _⟩

theorem szJoint_any (kind : Int) (s : ByteArray) (a : Option Addr) (n cap : Nat) (left : Int) (w : World) (hs : s.size ≤ maxLen) (hn : n ≤ maxLen) (h0 : 0 ≤ left) (h1 : left ≤ 1048576) :
    Calls Tryd.prog 23 #[.agg #[.int .i64 kind, .string s, .slice a n cap], .int .i64 left] w fun e w' =>
    ∃ r : Int, e = .returned (.int .i64 r) ∧ -1 ≤ r ∧ r ≤ left ∧ (0 ≤ r → n ≤ 1048576 ∧ s.size ≤ 1048576) ∧ Below w.heap.size w w' := by
  have hs' := hs
  unfold maxLen at hs'
  go_enter Tryd.func23, Tryd.ntmps23
  go_wp2_with fail
  · go_ret
    exact ⟨-1, rfl, by omega, by omega, by omega, (Below.refl _ _).alloc (Nat.le_refl _) _⟩
  · refine (szEndS_any a n cap _ _ hn (by omega) (by omega)).mono ?_
    rintro e w1 ⟨r, rfl, hr1, hr2, hr3, hb⟩
    have hb2 := ((Below.refl w.heap.size w).alloc (Nat.le_refl _) _).trans (hb.mono (by simp))
    go_wp2_with fail
    all_goals go_ret
    · exact ⟨-1, rfl, by omega, by omega, by omega, hb2⟩
    · exact ⟨r, rfl, by omega, by omega, by omega, hb2⟩

theorem szPieceS_any (a : Option Addr) (ps : List Pc) (cap : Nat) (left : Int) (w : World) (hn : ps.length ≤ maxLen) (hp : PcsAt w a ps) (hs : ∀ p ∈ ps, p.name.size ≤ maxLen) (h0 : 0 ≤ left) (h1 : left ≤ 1048576) :
    Calls Tryd.prog 9 #[.slice a ps.length cap, .int .i64 left] w fun e w' =>
    ∃ r : Int, e = .returned (.int .i64 r) ∧ -1 ≤ r ∧ r ≤ left ∧ (0 ≤ r → ps.length ≤ 1048576 ∧ ∀ p ∈ ps, p.name.size ≤ 1048576) ∧ Below w.heap.size w w' := by
  unfold maxLen at hn
  have HP : Hid (PcsAt w a ps) := hp
  have HS : Hid (∀ p ∈ ps, p.name.size ≤ maxLen) := hs
  clear hp hs
  go_enter Tryd.func9, Tryd.ntmps9
  go_wp2
  · go_ret
    exact ⟨-1, rfl, by omega, by omega, by omega, Below.refl _ _⟩
  · go_loopw [1, 5] (fun l i wr => ∃ (k : Nat) (lk : Int), k ≤ ps.length ∧ i = .int .i64 k ∧ l = .int .i64 lk ∧ 0 ≤ lk ∧ lk ≤ left ∧ (∀ j (_ : j < k) (hj : j < ps.length), ps[j].name.size ≤ 1048576) ∧ Below w.heap.size w wr) (fun _ i _ => ps.length - (intOf i).toNat)
    case atStart => exact ⟨0, left - ps.length, Nat.zero_le _, rfl, rfl, by omega, by omega, by intro j hj; omega, Below.refl _ _⟩
    case round =>
      obtain ⟨k, lk, hk, rfl, rfl, hlk0, hlk1, hnm, hb⟩ := hrel
      have HN := hide hnm
      clear hnm
      by_cases hlt : k < ps.length
      · obtain ⟨b, off, rfl, c0, c1, c2, c3⟩ := (PcsAt.later HP.out hb) k hlt
        go_wp2_with fail
        refine (szPiece_any _ _ _ _ _ _ (HS.out _ (List.getElem_mem hlt)) (by omega) (by omega)).mono ?_
        rintro e w1 ⟨r, rfl, hr1, hr2, hr3, hb1⟩
        have hb2 := hb.trans (hb1.mono hb.size)
        go_wp2_with fail
        · go_ret
          exact ⟨-1, rfl, by omega, by omega, by omega, hb2⟩
        · go_roundw
          case rel =>
            refine ⟨k + 1, r, by omega, by go_num, rfl, by omega, by omega, ?_, hb2⟩
            intro j hj hj'
            rcases Nat.lt_succ_iff_lt_or_eq.mp hj with h | h
            · exact HN.out j h hj'
            · subst h; exact hr3 (by omega)
          case measure => simp [intOf]; omega
      · go_wp2_with fail
        go_ret
        refine ⟨lk, rfl, by omega, by omega, fun _ => ⟨by omega, ?_⟩, hb⟩
        intro p hp
        obtain ⟨j, hj, rfl⟩ := List.getElem_of_mem hp
        exact HN.out j (by omega) hj

theorem szJointS_any (a : Option Addr) (js : List Jt) (cap : Nat) (left : Int) (w : World) (hn : js.length ≤ maxLen) (hp : JtsAt w a js) (hs : ∀ p ∈ js, p.name.size ≤ maxLen ∧ p.ends.length ≤ maxLen) (h0 : 0 ≤ left) (h1 : left ≤ 1048576) :
    Calls Tryd.prog 10 #[.slice a js.length cap, .int .i64 left] w fun e w' =>
    ∃ r : Int, e = .returned (.int .i64 r) ∧ -1 ≤ r ∧ r ≤ left ∧ (0 ≤ r → js.length ≤ 1048576 ∧ ∀ p ∈ js, p.name.size ≤ 1048576 ∧ p.ends.length ≤ 1048576) ∧ Below w.heap.size w w' := by
  unfold maxLen at hn
  have HP : Hid (JtsAt w a js) := hp
  have HS : Hid (∀ p ∈ js, p.name.size ≤ maxLen ∧ p.ends.length ≤ maxLen) := hs
  clear hp hs
  go_enter Tryd.func10, Tryd.ntmps10
  go_wp2
  · go_ret
    exact ⟨-1, rfl, by omega, by omega, by omega, Below.refl _ _⟩
  · go_loopw [1, 5] (fun l i wr => ∃ (k : Nat) (lk : Int), k ≤ js.length ∧ i = .int .i64 k ∧ l = .int .i64 lk ∧ 0 ≤ lk ∧ lk ≤ left ∧ (∀ j (_ : j < k) (hj : j < js.length), js[j].name.size ≤ 1048576 ∧ js[j].ends.length ≤ 1048576) ∧ Below w.heap.size w wr) (fun _ i _ => js.length - (intOf i).toNat)
    case atStart => exact ⟨0, left - js.length, Nat.zero_le _, rfl, rfl, by omega, by omega, by intro j hj; omega, Below.refl _ _⟩
    case round =>
      obtain ⟨k, lk, hk, rfl, rfl, hlk0, hlk1, hnm, hb⟩ := hrel
      have HN := hide hnm
      clear hnm
      by_cases hlt : k < js.length
      · obtain ⟨b, off, ea, ecap, rfl, c0, c1, c2, _⟩ := (JtsAt.later HP.out hb) k hlt
        go_wp2_with fail
        refine (szJoint_any _ _ _ _ _ _ _ (HS.out _ (List.getElem_mem hlt)).1 (HS.out _ (List.getElem_mem hlt)).2 (by omega) (by omega)).mono ?_
        rintro e w1 ⟨r, rfl, hr1, hr2, hr3, hb1⟩
        have hb2 := hb.trans (hb1.mono hb.size)
        go_wp2_with fail
        · go_ret
          exact ⟨-1, rfl, by omega, by omega, by omega, hb2⟩
        · go_roundw
          case rel =>
            refine ⟨k + 1, r, by omega, by go_num, rfl, by omega, by omega, ?_, hb2⟩
            intro j hj hj'
            rcases Nat.lt_succ_iff_lt_or_eq.mp hj with h | h
            · exact HN.out j h hj'
            · subst h; have := hr3 (by omega); exact ⟨this.2, this.1⟩
          case measure => simp [intOf]; omega
      · go_wp2_with fail
        go_ret
        refine ⟨lk, rfl, by omega, by omega, fun _ => ⟨by omega, ?_⟩, hb⟩
        intro p hp
        obtain ⟨j, hj, rfl⟩ := List.getElem_of_mem hp
        exact HN.out j (by omega) hj

theorem szNet_any (a a' : Option Addr) (N : Nt) (cap cap' : Nat) (left : Int) (w : World) (hn : N.pcs.length ≤ maxLen) (hp : PcsAt w a N.pcs) (hs : ∀ p ∈ N.pcs, p.name.size ≤ maxLen) (hn' : N.jts.length ≤ maxLen) (hp' : JtsAt w a' N.jts) (hs' : ∀ p ∈ N.jts, p.name.size ≤ maxLen ∧ p.ends.length ≤ maxLen) (h0 : 0 ≤ left) (h1 : left ≤ 1048576) :
    Calls Tryd.prog 4 #[.agg #[.slice a N.pcs.length cap, .slice a' N.jts.length cap'], .int .i64 left] w fun e w' =>
    ∃ r : Int, e = .returned (.int .i64 r) ∧ -1 ≤ r ∧ r ≤ left ∧ (0 ≤ r → (N.pcs.length ≤ 1048576 ∧ ∀ p ∈ N.pcs, p.name.size ≤ 1048576) ∧ (N.jts.length ≤ 1048576 ∧ ∀ p ∈ N.jts, p.name.size ≤ 1048576 ∧ p.ends.length ≤ 1048576)) ∧ Below w.heap.size w w' := by
  have HP := hide hp
  have HP' := hide hp'
  have HS := hide hs
  have HS' := hide hs'
  clear hp hs hp' hs'
  go_enter Tryd.func4, Tryd.ntmps4
  go_wp2_with fail
  have hb0 := ((Below.refl w.heap.size w).alloc (Nat.le_refl _) (.cells #[Value.slice a N.pcs.length cap, Value.slice a' N.jts.length cap'] 25))
  refine (szPieceS_any a N.pcs cap left _ hn (HP.out.later hb0) HS.out (by omega) (by omega)).mono ?_
  rintro e w1 ⟨r, rfl, hr1, hr2, hr3, hb1⟩
  have hb2 := hb0.trans (hb1.mono (by simp))
  have HR := hide hr3
  clear hr3
  have c0 := box_cell hb1 0 _ rfl
  have c1 := box_cell hb1 1 _ rfl
  by_cases hr : r < 0
  · go_wp2_with fail
    go_ret
    exact ⟨-1, rfl, by omega, by omega, by omega, hb2⟩
  · go_wp2_with fail
    refine (szJointS_any a' N.jts cap' r _ hn' (HP'.out.later hb2) HS'.out (by omega) (by omega)).mono ?_
    rintro e w2 ⟨r2, rfl, hq1, hq2, hq3, hb3⟩
    have hb4 := hb2.trans (hb3.mono hb2.size)
    have HR' := hide hq3
    clear hq3
    go_wp2_with fail
    all_goals go_ret
    · exact ⟨-1, rfl, by omega, by omega, by omega, hb4⟩
    · exact ⟨r2, rfl, by omega, by omega, fun _ => ⟨HR.out (by omega), HR'.out (by omega)⟩, hb4⟩
end Go.Proofs.YtokhbnlpifmjkaaDoor

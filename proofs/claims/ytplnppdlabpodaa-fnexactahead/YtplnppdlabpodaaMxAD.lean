/- The laws' own helpers on lists of numbers. Own work. -/
import Derived.Test.YtplnppdlabpodaaStC
import Derived.Test.YtplnppdlabpodaaTo
import Derived.Deep.RegionWith
import Derived.Test.YtplnppdlabpodaaPl
namespace Go.Proofs.Ytplnppdlabpodaa
open Go.RowKit
set_option maxHeartbeats 2000000

theorem info_Int : (Try.prog.info? 3).map (fun i => (i.zero, i.size, i.bytes)) = some (some (.int .i64 0), 1, 8) := by kernel_rfl

theorem toIntS_any (a : Option Addr) (xs : List Int) (cap : Nat) (w : World) (hn : xs.length ≤ 1048576) (hp : IntsAt w a xs) :
    Calls Try.prog 36 #[.slice a xs.length cap] w fun e w' =>
    e = .returned (.slice (some ⟨w.heap.size, 0, none⟩) xs.length xs.length) ∧ Row w' w.heap.size 3 xs.length ∧ IntsAt w' (some ⟨w.heap.size, 0, none⟩) xs ∧ Below w.heap.size w w' := by
  have HP := hide hp
  clear hp
  have hmk := run_make_rows (P := Try.prog) 57 3 _ _ _ Try.underlying57 info_Int xs.length (by omega) (by omega)
  go_enter Try.func36, Try.ntmps36
  go_wp2
  go_loopw [4] (fun i wr => ∃ (k : Nat) (f : Nat → Value), k ≤ xs.length ∧ i = .int .i64 k ∧ wr.rowIs w.heap.size 3 xs.length f ∧ (∀ j (_ : j < k) (hj : j < xs.length), f j = .int .i64 xs[j]) ∧ Below w.heap.size w wr) (fun i _ => xs.length - (intOf i).toNat)
  case atStart =>
    obtain ⟨f, hf⟩ := rowIs_made' w #[.int .i64 0] xs.length 3
    refine ⟨0, f, Nat.zero_le _, rfl, ?_, by intro j hj; omega, (Below.refl _ _).alloc (Nat.le_refl _) _⟩
    simpa using hf
  case round =>
    obtain ⟨k, f, hk, rfl, hf, hfs, hb⟩ := hrel
    have HF := hide hf
    have HFS := hide hfs
    clear hf hfs hmk
    by_cases hlt : k < xs.length
    · obtain ⟨b, off, rfl, c0⟩ := (IntsAt.later HP.out hb) k hlt
      have d0 := HF.out.cell (i := k) hlt
      have z0 := HF.out.frozen k
      go_wp2_with fail
      refine ⟨⟨k + 1, _, by omega, by go_num, HF.out.set _ _, ?_, hb.setCell (by simp) _⟩, by simp [intOf]; omega⟩
      intro j hj hj'
      by_cases e : j = k
      · subst e; rw [if_pos rfl]
      · rw [if_neg e]; exact HFS.out j (by omega) hj'
    · go_wp2_with fail
      go_ret
      refine ⟨rfl, ⟨f, HF.out⟩, ?_, hb⟩
      intro j hj
      exact ⟨_, 0, rfl, by rw [Nat.zero_add, HF.out.cell hj, HFS.out j (by omega) hj]⟩

theorem eqIntS_same (a a' : Option Addr) (xs : List Int) (cap cap' : Nat) (w : World) (hn : xs.length ≤ 1048576) (hp : IntsAt w a xs) (hp' : IntsAt w a' xs) :
    Calls Try.prog 39 #[.slice a xs.length cap, .slice a' xs.length cap'] w fun e w' =>
    e = .returned (.bool true) ∧ Below w.heap.size w w' := by
  have HP := hide hp
  have HP' := hide hp'
  clear hp hp'
  go_enter Try.func39, Try.ntmps39
  go_wp2
  go_loopw [5] (fun i wr => ∃ (k : Nat), k ≤ xs.length ∧ i = .int .i64 k ∧ Below w.heap.size w wr) (fun i _ => xs.length - (intOf i).toNat)
  case atStart => exact ⟨0, Nat.zero_le _, rfl, Below.refl _ _⟩
  case round =>
    obtain ⟨k, hk, rfl, hb⟩ := hrel
    by_cases hlt : k < xs.length
    · obtain ⟨b, off, rfl, c0⟩ := (IntsAt.later HP.out hb) k hlt
      obtain ⟨b', off', rfl, c0'⟩ := (IntsAt.later HP'.out hb) k hlt
      have hi1 : (k : Int) < (xs.length : Int) := by omega
      go_wp2_with fail
      go_quiet (fail)
      go_wp2_with fail
      exact ⟨⟨k + 1, by omega, by go_num, below_drewN hb _⟩, by simp [intOf]; omega⟩
    · go_wp2_with fail
      go_ret
      exact ⟨rfl, hb⟩

end Go.Proofs.Ytplnppdlabpodaa

/- The laws' own helpers on lists of parts. Own work. -/
namespace Go.Proofs.Ytplnppdlabpodaa
open Go.RowKit
set_option maxHeartbeats 2000000

/-- A list of parts in memory. -/
def PartsAt (w : World) (a : Option Addr) (ps : List (Int × Int × Int)) : Prop :=
  ∀ k (_ : k < ps.length), ∃ b off, a = some ⟨b, off, none⟩ ∧ w.cell? ⟨b, off + k * 3, none⟩ = some (.int .i64 ps[k].1) ∧ w.cell? ⟨b, off + k * 3 + 1, none⟩ = some (.int .i64 ps[k].2.1) ∧ w.cell? ⟨b, off + k * 3 + 2, none⟩ = some (.int .i64 ps[k].2.2)
theorem PartsAt.later {w w' : World} {a ps} (h : PartsAt w a ps) (hb : Below w.heap.size w w') : PartsAt w' a ps := by
  intro k hk
  obtain ⟨b, off, ha, h1, h2, h3⟩ := h k hk
  exact ⟨b, off, ha, cell_later' hb h1, cell_later' hb h2, cell_later' hb h3⟩

theorem eqPart_same (x y z : Int) (w : World) : Calls Try.prog 92 #[.agg #[.int .i64 x, .int .i64 y, .int .i64 z], .agg #[.int .i64 x, .int .i64 y, .int .i64 z]] w fun e w' =>
    e = .returned (.bool true) ∧ Below w.heap.size w w' := by
  go_enter Try.func92, Try.ntmps92
  go_wp2
  go_ret
  exact ⟨rfl, ((Below.refl _ _).alloc (Nat.le_refl _) _).alloc (by simp) _⟩

theorem eqPartS_same (a a' : Option Addr) (es : List (Int × Int × Int)) (cap cap' : Nat) (w : World) (hn : es.length ≤ 1048576) (hp : PartsAt w a es) (hp' : PartsAt w a' es) :
    Calls Try.prog 42 #[.slice a es.length cap, .slice a' es.length cap'] w fun e w' =>
    e = .returned (.bool true) ∧ Below w.heap.size w w' := by
  have HP := hide hp
  have HP' := hide hp'
  clear hp hp'
  go_enter Try.func42, Try.ntmps42
  go_wp2
  go_loopw [5] (fun i wr => ∃ (k : Nat), k ≤ es.length ∧ i = .int .i64 k ∧ Below w.heap.size w wr) (fun i _ => es.length - (intOf i).toNat)
  case atStart => exact ⟨0, Nat.zero_le _, rfl, Below.refl _ _⟩
  case round =>
    obtain ⟨k, hk, rfl, hb⟩ := hrel
    by_cases hlt : k < es.length
    · obtain ⟨b, off, rfl, c0, c1, c2⟩ := (PartsAt.later HP.out hb) k hlt
      obtain ⟨b', off', rfl, c0', c1', c2'⟩ := (PartsAt.later HP'.out hb) k hlt
      go_wp2_with fail
      go_region_with (go_at_call 92; refine (eqPart_same _ _ _ _).mono ?_; rintro e w1 ⟨rfl, hb1⟩)
      all_goals
        have hb2 := hb.trans (Below.mono (Below.trans (Below.drew (Below.refl _ _)) hb1) hb.size)
        go_wp2_with fail
        go_roundw
        case rel => exact ⟨k + 1, by omega, by go_num, hb2⟩
        case measure => simp [intOf]; omega
    · go_wp2_with fail
      go_ret
      exact ⟨rfl, hb⟩

end Go.Proofs.Ytplnppdlabpodaa

namespace Go.Proofs.Ytplnppdlabpodaa
open Go.RowKit
set_option maxHeartbeats 1000000

def goodP (N : Nt) (xs : List Int) (q at' way far : Int) : Bool := decide (netOk N = (0, 0)) && liesP N.jts xs && spotP N q at' way && inR far 0 1000000

theorem l3good_any (a a' z : Option Addr) (N : Nt) (cap cap' zc : Nat) (xs : List Int) (q at' way far : Int) (w : World) (hn : N.pcs.length ≤ 1048576) (hs : ∀ p ∈ N.pcs, p.name.size ≤ 1048576) (hl : N.jts.length ≤ 1048576) (hm : ∀ j ∈ N.jts, j.name.size ≤ 1048576 ∧ j.ends.length ≤ 1048576) (hx : xs.length ≤ 1048576) (hp : PcsAt w a N.pcs) (hj : JtsAt w a' N.jts) (hz : IntsAt w z xs) :
    Calls Try.prog 89 #[.agg #[.slice a N.pcs.length cap, .slice a' N.jts.length cap'], .slice z xs.length zc, .agg #[.int .i64 q, .int .i64 at', .int .i64 way], .int .i64 far] w fun e w' =>
    e = .returned (.bool (goodP N xs q at' way far)) ∧ Below w.heap.size w w' := by
  have HP := hide hp
  have HJ := hide hj
  have HZ := hide hz
  have HM := hide hm
  have HS := hide hs
  clear hp hj hm hs hz
  go_enter Try.func89, Try.ntmps89
  go_wp2_with fail
  have hbW : Below w.heap.size w ((w.alloc (.cells #[.slice a N.pcs.length cap, .slice a' N.jts.length cap'] 33)).alloc (.cells #[.int .i64 q, .int .i64 at', .int .i64 way] 52)) := ((Below.refl _ _).alloc (Nat.le_refl _) _).alloc (by simp) _
  refine (l1ok_any a a' N cap cap' _ hn HS.out hl HM.out (HP.out.later hbW) (HJ.out.later hbW)).mono ?_
  rintro e w1 ⟨rfl, hb1⟩
  have hb2 := hbW.trans (hb1.mono hbW.size)
  obtain ⟨hc, hf⟩ := bcell hb1
  have n0 : w1.cell? ⟨w.heap.size, 0, none⟩ = some (.slice a N.pcs.length cap) := by rw [hc _ _ (by simp; omega)]; simp [go_sem]
  have n1 : w1.cell? ⟨w.heap.size, 1, none⟩ = some (.slice a' N.jts.length cap') := by rw [hc _ _ (by simp; omega)]; simp [go_sem]
  have e0 : w1.cell? ⟨w.heap.size + 1, 0, none⟩ = some (.int .i64 q) := by rw [hc _ _ (by simp)]; simp [go_sem]
  have e1 : w1.cell? ⟨w.heap.size + 1, 1, none⟩ = some (.int .i64 at') := by rw [hc _ _ (by simp)]; simp [go_sem]
  have e2 : w1.cell? ⟨w.heap.size + 1, 2, none⟩ = some (.int .i64 way) := by rw [hc _ _ (by simp)]; simp [go_sem]
  clear hc hf hb1
  cases hr : decide (netOk N = (0, 0))
  · have HR := hide hr
    clear hr
    go_wp2_with fail
    go_ret
    exact ⟨ret_b (by simp only [goodP, HR.out]; rfl), hb2⟩
  have HR := hide hr
  clear hr
  go_wp2_with fail
  refine (l3lies_any _ _ z _ _ _ zc N.jts xs _ hl hx (HJ.out.later hb2) (HZ.out.later hb2)).mono ?_
  rintro e w2 ⟨rfl, hb3⟩
  have hb4 := hb2.trans (hb3.mono hb2.size)
  have n0 := cell_later' hb3 n0
  have n1 := cell_later' hb3 n1
  have e0 := cell_later' hb3 e0
  have e1 := cell_later' hb3 e1
  have e2 := cell_later' hb3 e2
  clear hb3
  cases hr2 : liesP N.jts xs
  · have HR2 := hide hr2
    clear hr2
    go_wp2_with fail
    go_ret
    exact ⟨ret_b (by simp only [goodP, HR.out, HR2.out]; rfl), hb4⟩
  have HR2 := hide hr2
  clear hr2
  go_wp2_with fail
  refine (l3spot_any _ _ N _ _ _ _ _ _ hn (HP.out.later hb4)).mono ?_
  rintro e w3 ⟨rfl, hb5⟩
  have hb6 := hb4.trans (hb5.mono hb4.size)
  clear hb5
  cases hr3 : spotP N q at' way
  · have HR3 := hide hr3
    clear hr3
    go_wp2_with fail
    go_ret
    exact ⟨ret_b (by simp only [goodP, HR.out, HR2.out, HR3.out]; rfl), hb6⟩
  have HR3 := hide hr3
  clear hr3
  go_wp2_with fail
  refine (l1in_any _ _ _ _).mono ?_
  rintro e w4 ⟨rfl, rfl⟩
  go_wp2_with fail
  go_ret
  exact ⟨ret_b (by simp only [goodP, HR.out, HR2.out, HR3.out]; simp), hb6⟩
end Go.Proofs.Ytplnppdlabpodaa

/- More plain lemmas. Own work. -/
namespace Go.Proofs.Ytplnppdlabpodaa

def jb3 (n : Nat) (j : Jt) : Bool := !(inR j.kind 1 4) || ((j.ends.length : Int) != j.kind) || j.ends.any (fun e => !endOk n e)
def jnOk (j : Jt) : Bool := if j.kind < 3 then j.name.toList.isEmpty else nm j.name
theorem jtBad3_jb3 {n : Nat} {js : List Jt} {k : Nat} (hk : k < js.length) : jtBad3 n js k = jb3 n js[k] := by rw [jtBad3_eq hk]; rfl
theorem jb3_none {n : Nat} {j : Jt} (h : j.kind < 1 ∨ 4 < j.kind) : jb3 n j = true := by
  have : inR j.kind 1 4 = false := by rw [Bool.eq_false_iff]; simp [inR]; omega
  simp [jb3, this]
theorem jb3_some {n : Nat} {j : Jt} {c : Int} (h : j.kind = c) (h1 : 1 ≤ c) (h4 : c ≤ 4) : jb3 n j = (((j.ends.length : Int) != c) || j.ends.any (fun e => !endOk n e)) := by
  have : inR j.kind 1 4 = true := by simp [inR]; omega
  rw [jb3, this, h]; rfl
theorem jb3_kind {n : Nat} {j : Jt} (h : jb3 n j = false) : 1 ≤ j.kind ∧ j.kind ≤ 4 := by
  simp [jb3, inR] at h; omega
end Go.Proofs.Ytplnppdlabpodaa

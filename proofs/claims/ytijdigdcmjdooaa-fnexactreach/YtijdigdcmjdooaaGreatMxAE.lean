import Derived.Test.YtijdigdcmjdooaaGreatMxAD
import Derived.Test.YtijdigdcmjdooaaGreatTo
import Derived.Deep.RegionWith
import Derived.Test.YtijdigdcmjdooaaGreatMxAB
namespace Go.Proofs.YtijdigdcmjdooaaGreat
open Go.RowKit
set_option maxHeartbeats 1000000

def headP (q way : Int) : Int × Int := if way = 1 then (q, 1) else (q, 0)
def enterP (N : Nt) (e : Int × Int) : Int × Int × Int := if e.2 = 0 then (e.1, 0, 1) else (e.1, lenAt N e.1, -1)
def roomP (N : Nt) (q at' way : Int) : Int := if way = 1 then lenAt N q - at' else at'

theorem l3head_any (q at' way : Int) (w : World) :
    Calls Tryz.prog 38 #[.agg #[.int .i64 q, .int .i64 at', .int .i64 way]] w fun e w' =>
    e = .returned (.agg #[.int .i64 (headP q way).1, .int .i64 (headP q way).2]) ∧ Below w.heap.size w w' := by
  by_cases h : way = 1
  · subst h
    go_enter Tryz.func38, Tryz.ntmps38
    go_wp2
    exact bodyPost_ret (v := .agg #[.int .i64 q, .int .i64 1]) (by simp [results, Tryz.results38, go_sem]) rfl ⟨rfl, ((Below.refl _ _).alloc (Nat.le_refl _) _).alloc (by simp) _⟩
  · have hb : (way == 1) = false := by rw [beq_eq_false_iff_ne]; exact h
    have H := hide (show headP q way = (q, 0) by simp [headP, h])
    clear h
    go_enter Tryz.func38, Tryz.ntmps38
    go_wp2
    exact bodyPost_ret (v := .agg #[.int .i64 q, .int .i64 0]) (by simp [results, Tryz.results38, go_sem]) rfl ⟨by rw [H.out], ((Below.refl _ _).alloc (Nat.le_refl _) _).alloc (by simp) _⟩

theorem lenAt_nat (N : Nt) (k : Nat) (hk : k < N.pcs.length) : lenAt N (k : Int) = N.pcs[k].len := by simp [lenAt, hk]

theorem l3enter_any (a a' : Option Addr) (N : Nt) (cap cap' k : Nat) (sd : Int) (w : World) (hk : k < N.pcs.length) (hp : PcsAt w a N.pcs) :
    Calls Tryz.prog 40 #[.agg #[.slice a N.pcs.length cap, .slice a' N.jts.length cap'], .agg #[.int .i64 k, .int .i64 sd]] w fun e w' =>
    e = .returned (.agg #[.int .i64 (enterP N (k, sd)).1, .int .i64 (enterP N (k, sd)).2.1, .int .i64 (enterP N (k, sd)).2.2]) ∧ Below w.heap.size w w' := by
  obtain ⟨b, off, rfl, c0, c1, c2, c3⟩ := hp k hk
  have hblt := cell_lt c0
  have hblt1 : b < w.heap.size + 1 := by omega
  have hblt2 : b < w.heap.size + 1 + 1 := by omega
  have hi : (k : Int) < (N.pcs.length : Int) := by omega
  clear hp c0 c2 c3
  by_cases h : sd = 0
  · subst h
    go_enter Tryz.func40, Tryz.ntmps40
    go_wp2
    exact bodyPost_ret (v := .agg #[.int .i64 k, .int .i64 0, .int .i64 1]) (by simp [results, Tryz.results40, go_sem]) rfl ⟨rfl, (((Below.refl _ _).alloc (Nat.le_refl _) _).alloc (by simp) _).alloc (by simp; omega) _⟩
  · have hb : (sd == 0) = false := by rw [beq_eq_false_iff_ne]; exact h
    have H := hide (show enterP N (k, sd) = ((k : Int), N.pcs[k].len, -1) by simp [enterP, h, lenAt_nat N k hk])
    clear h
    go_enter Tryz.func40, Tryz.ntmps40
    go_wp2_with fail
    go_region
    all_goals
      go_wp2_with fail
      refine bodyPost_ret (v := .agg #[.int .i64 k, .int .i64 N.pcs[k].len, .int .i64 (-1)]) (by simp [results, Tryz.results40, go_sem]) rfl ⟨by rw [H.out], ?_⟩
      exact ((((Below.refl _ _).alloc (Nat.le_refl _) _).alloc (by simp) _).alloc (by simp; omega) _).drew

theorem l3room_any (a a' : Option Addr) (N : Nt) (cap cap' k : Nat) (at' way : Int) (w : World) (hk : k < N.pcs.length) (hl : 0 ≤ N.pcs[k].len ∧ N.pcs[k].len ≤ 10000000) (ha : 0 ≤ at' ∧ at' ≤ 10000000) (hp : PcsAt w a N.pcs) :
    Calls Tryz.prog 36 #[.agg #[.slice a N.pcs.length cap, .slice a' N.jts.length cap'], .agg #[.int .i64 k, .int .i64 at', .int .i64 way]] w fun e w' =>
    e = .returned (.int .i64 (roomP N k at' way)) ∧ Below w.heap.size w w' := by
  obtain ⟨b, off, rfl, c0, c1, c2, c3⟩ := hp k hk
  have hblt := cell_lt c0
  have hi : (k : Int) < (N.pcs.length : Int) := by omega
  obtain ⟨hl0, hl1⟩ := hl
  obtain ⟨ha0, ha1⟩ := ha
  have hbW : Below w.heap.size w ((w.alloc (.cells #[.slice (some ⟨b, off, none⟩) N.pcs.length cap, .slice a' N.jts.length cap'] 26)).alloc (.cells #[.int .i64 k, .int .i64 at', .int .i64 way] 29)) := ((Below.refl _ _).alloc (Nat.le_refl _) _).alloc (by simp) _
  clear hp c0 c2 c3
  by_cases h : way = 1
  · subst h
    have H := hide (show roomP N k at' 1 = N.pcs[k].len - at' by simp [roomP, lenAt_nat N k hk])
    go_enter Tryz.func36, Tryz.ntmps36
    go_wp2_with fail
    go_quiet (fail)
    go_wp2_with fail
    go_ret
    exact ⟨ret_i H.out.symm, below_drewN hbW _⟩
  · have hb : (way == 1) = false := by rw [beq_eq_false_iff_ne]; exact h
    have H := hide (show roomP N k at' way = at' by simp [roomP, h])
    clear h
    go_enter Tryz.func36, Tryz.ntmps36
    go_wp2_with fail
    go_ret
    exact ⟨ret_i H.out.symm, hbW⟩

/-- A list of numbers in memory. -/
def IntsAt (w : World) (a : Option Addr) (xs : List Int) : Prop :=
  ∀ k (_ : k < xs.length), ∃ b off, a = some ⟨b, off, none⟩ ∧ w.cell? ⟨b, off + k, none⟩ = some (.int .i64 xs[k])

theorem IntsAt.later {w w' : World} {a xs} (h : IntsAt w a xs) (hb : Below w.heap.size w w') : IntsAt w' a xs := by
  intro k hk
  obtain ⟨b, off, ha, h1⟩ := h k hk
  exact ⟨b, off, ha, cell_later' hb h1⟩

def lieOk (j : Jt) (x : Int) : Bool := inR x 0 2 && !((x != 0) && (j.kind != 3))
def liesP (js : List Jt) (xs : List Int) : Bool := decide (xs.length = js.length) && (js.zip xs).all (fun z => lieOk z.1 z.2)

theorem liesP_bad {js : List Jt} {xs : List Int} {k : Nat} (hj : k < js.length) (hx : k < xs.length) (h : lieOk js[k] xs[k] = false) : liesP js xs = false := by
  have : (js.zip xs).all (fun z => lieOk z.1 z.2) = false := by
    rw [List.all_eq_false]
    refine ⟨(js[k], xs[k]), ?_, by simp [h]⟩
    rw [List.mem_iff_getElem]
    exact ⟨k, by simp; omega, by simp⟩
  simp [liesP, this]

theorem liesP_good {js : List Jt} {xs : List Int} (hl : xs.length = js.length) (h : ∀ k (hj : k < js.length) (hx : k < xs.length), lieOk js[k] xs[k] = true) : liesP js xs = true := by
  have : (js.zip xs).all (fun z => lieOk z.1 z.2) = true := by
    rw [List.all_eq_true]
    intro z hz
    obtain ⟨k, hk, rfl⟩ := List.getElem_of_mem hz
    simp at hk ⊢
    exact h k (by omega) (by omega)
  simp [liesP, this, hl]

end Go.Proofs.YtijdigdcmjdooaaGreat

/- The laws' own helpers on lists of numbers. Own work. -/
namespace Go.Proofs.YtijdigdcmjdooaaGreat
open Go.RowKit
set_option maxHeartbeats 2000000

theorem info_Int : (Tryz.prog.info? 3).map (fun i => (i.zero, i.size, i.bytes)) = some (some (.int .i64 0), 1, 8) := by kernel_rfl

end Go.Proofs.YtijdigdcmjdooaaGreat

/- The laws' own helpers on lists of parts. Own work. -/
namespace Go.Proofs.YtijdigdcmjdooaaGreat
open Go.RowKit
set_option maxHeartbeats 2000000

/-- A list of parts in memory. -/
def PartsAt (w : World) (a : Option Addr) (ps : List (Int × Int × Int)) : Prop :=
  ∀ k (_ : k < ps.length), ∃ b off, a = some ⟨b, off, none⟩ ∧ w.cell? ⟨b, off + k * 3, none⟩ = some (.int .i64 ps[k].1) ∧ w.cell? ⟨b, off + k * 3 + 1, none⟩ = some (.int .i64 ps[k].2.1) ∧ w.cell? ⟨b, off + k * 3 + 2, none⟩ = some (.int .i64 ps[k].2.2)
theorem PartsAt.later {w w' : World} {a ps} (h : PartsAt w a ps) (hb : Below w.heap.size w w') : PartsAt w' a ps := by
  intro k hk
  obtain ⟨b, off, ha, h1, h2, h3⟩ := h k hk
  exact ⟨b, off, ha, cell_later' hb h1, cell_later' hb h2, cell_later' hb h3⟩

end Go.Proofs.YtijdigdcmjdooaaGreat

namespace Go.Proofs.YtijdigdcmjdooaaGreat
open Go.RowKit
set_option maxHeartbeats 1000000

def goodP (N : Nt) (xs : List Int) (q at' way far : Int) : Bool := decide (netOk N = (0, 0)) && liesP N.jts xs && spotP N q at' way && inR far 0 1000000

end Go.Proofs.YtijdigdcmjdooaaGreat

/- More plain lemmas. Own work. -/
namespace Go.Proofs.YtijdigdcmjdooaaGreat

def jb3 (n : Nat) (j : Jt) : Bool := !(inR j.kind 1 4) || ((j.ends.length : Int) != j.kind) || j.ends.any (fun e => !endOk n e)
def jnOk (j : Jt) : Bool := if j.kind < 3 then j.name.toList.isEmpty else nm j.name
theorem jtBad3_jb3 {n : Nat} {js : List Jt} {k : Nat} (hk : k < js.length) : jtBad3 n js k = jb3 n js[k] := by rw [jtBad3_eq hk]; rfl
theorem jb3_none {n : Nat} {j : Jt} (h : j.kind < 1 ∨ 4 < j.kind) : jb3 n j = true := by
  have : inR j.kind 1 4 = false := by rw [Bool.eq_false_iff]; simp [inR]; omega
  simp [jb3, this]
theorem jb3_some {n : Nat} {j : Jt} {c : Int} (h : j.kind = c) (h1 : 1 ≤ c) (h4 : c ≤ 4) : jb3 n j = (((j.ends.length : Int) != c) || j.ends.any (fun e => !endOk n e)) := by
  have : inR j.kind 1 4 = true := by simp [inR]; omega
  rw [jb3, this, h]; rfl
theorem jb3_kind {n : Nat} {j : Jt} (h : jb3 n j = false) : 1 ≤ j.kind ∧ j.kind ≤ 4 := by
  simp [jb3, inR] at h; omega
end Go.Proofs.YtijdigdcmjdooaaGreat

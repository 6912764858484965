import Derived.Test.YtijdigdcmjdooaaGreatMxAC
import Derived.Test.YtijdigdcmjdooaaGreatMxAA
import Derived.Deep.RegionWith
import Derived.Test.YtijdigdcmjdooaaGreatMxAB
namespace Go.Proofs.YtijdigdcmjdooaaGreat
open Go.RowKit
set_option maxHeartbeats 1000000

def headP (q way : Int) : Int × Int := if way = 1 then (q, 1) else (q, 0)
def enterP (N : Nt) (e : Int × Int) : Int × Int × Int := if e.2 = 0 then (e.1, 0, 1) else (e.1, lenAt N e.1, -1)
def roomP (N : Nt) (q at' way : Int) : Int := if way = 1 then lenAt N q - at' else at'

theorem l3head_any (q at' way : Int) (w : World) :
    Calls Tryz.prog 38 #[.agg #[.int .i64 q, .int .i64 at', .int .i64 way]] w fun e w' =>
    e = .returned (.agg #[.int .i64 (headP q way).1, .int .i64 (headP q way).2]) ∧ Below w.heap.size w w' := by
  by_cases h : way = 1
  · subst h
    go_enter Tryz.func38, Tryz.ntmps38
    go_wp2
    exact bodyPost_ret (v := .agg #[.int .i64 q, .int .i64 1]) (by simp [results, Tryz.results38, go_sem]) rfl ⟨rfl, ((Below.refl _ _).alloc (Nat.le_refl _) _).alloc (by simp) _⟩
  · have hb : (way == 1) = false := by rw [beq_eq_false_iff_ne]; exact h
    have H := hide (show headP q way = (q, 0) by simp [headP, h])
    clear h
    go_enter Tryz.func38, Tryz.ntmps38
    go_wp2
    exact bodyPost_ret (v := .agg #[.int .i64 q, .int .i64 0]) (by simp [results, Tryz.results38, go_sem]) rfl ⟨by rw [H.out], ((Below.refl _ _).alloc (Nat.le_refl _) _).alloc (by simp) _⟩

theorem lenAt_nat (N : Nt) (k : Nat) (hk : k < N.pcs.length) : lenAt N (k : Int) = N.pcs[k].len := by simp [lenAt, hk]

theorem l3enter_any (a a' : Option Addr) (N : Nt) (cap cap' k : Nat) (sd : Int) (w : World) (hk : k < N.pcs.length) (hp : PcsAt w a N.pcs) :
    Calls Tryz.prog 40 #[.agg #[.slice a N.pcs.length cap, .slice a' N.jts.length cap'], .agg #[.int .i64 k, .int .i64 sd]] w fun e w' =>
    e = .returned (.agg #[.int .i64 (enterP N (k, sd)).1, .int .i64 (enterP N (k, sd)).2.1, .int .i64 (enterP N (k, sd)).2.2]) ∧ Below w.heap.size w w' := by
  obtain ⟨b, off, rfl, c0, c1, c2, c3⟩ := hp k hk
  have hblt := cell_lt c0
  have hblt1 : b < w.heap.size + 1 := by omega
  have hblt2 : b < w.heap.size + 1 + 1 := by omega
  have hi : (k : Int) < (N.pcs.length : Int) := by omega
  clear hp c0 c2 c3
  by_cases h : sd = 0
  · subst h
    go_enter Tryz.func40, Tryz.ntmps40
    go_wp2
    exact bodyPost_ret (v := .agg #[.int .i64 k, .int .i64 0, .int .i64 1]) (by simp [results, Tryz.results40, go_sem]) rfl ⟨rfl, (((Below.refl _ _).alloc (Nat.le_refl _) _).alloc (by simp) _).alloc (by simp; omega) _⟩
  · have hb : (sd == 0) = false := by rw [beq_eq_false_iff_ne]; exact h
    have H := hide (show enterP N (k, sd) = ((k : Int), N.pcs[k].len, -1) by simp [enterP, h, lenAt_nat N k hk])
    clear h
    go_enter Tryz.func40, Tryz.ntmps40
    go_wp2_with fail
    go_region
    all_goals
      go_wp2_with fail
      refine bodyPost_ret (v := .agg #[.int .i64 k, .int .i64 N.pcs[k].len, .int .i64 (-1)]) (by simp [results, Tryz.results40, go_sem]) rfl ⟨by rw [H.out], ?_⟩
      exact ((((Below.refl _ _).alloc (Nat.le_refl _) _).alloc (by simp) _).alloc (by simp; omega) _).drew

theorem l3room_any (a a' : Option Addr) (N : Nt) (cap cap' k : Nat) (at' way : Int) (w : World) (hk : k < N.pcs.length) (hl : 0 ≤ N.pcs[k].len ∧ N.pcs[k].len ≤ 10000000) (ha : 0 ≤ at' ∧ at' ≤ 10000000) (hp : PcsAt w a N.pcs) :
    Calls Tryz.prog 36 #[.agg #[.slice a N.pcs.length cap, .slice a' N.jts.length cap'], .agg #[.int .i64 k, .int .i64 at', .int .i64 way]] w fun e w' =>
    e = .returned (.int .i64 (roomP N k at' way)) ∧ Below w.heap.size w w' := by
  obtain ⟨b, off, rfl, c0, c1, c2, c3⟩ := hp k hk
  have hblt := cell_lt c0
  have hi : (k : Int) < (N.pcs.length : Int) := by omega
  obtain ⟨hl0, hl1⟩ := hl
  obtain ⟨ha0, ha1⟩ := ha
  have hbW : Below w.heap.size w ((w.alloc (.cells #[.slice (some ⟨b, off, none⟩) N.pcs.length cap, .slice a' N.jts.length cap'] 26)).alloc (.cells #[.int .i64 k, .int .i64 at', .int .i64 way] 29)) := ((Below.refl _ _).alloc (Nat.le_refl _) _).alloc (by simp) _
  clear hp c0 c2 c3
  by_cases h : way = 1
  · subst h
    have H := hide (show roomP N k at' 1 = N.pcs[k].len - at' by simp [roomP, lenAt_nat N k hk])
    go_enter Tryz.func36, Tryz.ntmps36
    go_wp2_with fail
    go_quiet (fail)
    go_wp2_with fail
    go_ret
    exact ⟨ret_i H.out.symm, below_drewN hbW _⟩
  · have hb : (way == 1) = false := by rw [beq_eq_false_iff_ne]; exact h
    have H := hide (show roomP N k at' way = at' by simp [roomP, h])
    clear h
    go_enter Tryz.func36, Tryz.ntmps36
    go_wp2_with fail
    go_ret
    exact ⟨ret_i H.out.symm, hbW⟩

/-- A list of numbers in memory. -/
def IntsAt (w : World) (a : Option Addr) (xs : List Int) : Prop :=
  ∀ k (_ : k < xs.length), ∃ b off, a = some ⟨b, off, none⟩ ∧ w.cell? ⟨b, off + k, none⟩ = some (.int .i64 xs[k])

theorem IntsAt.later {w w' : World} {a xs} (h : IntsAt w a xs) (hb : Below w.heap.size w w') : IntsAt w' a xs := by
  intro k hk
  obtain ⟨b, off, ha, h1⟩ := h k hk
  exact ⟨b, off, ha, cell_later' hb h1⟩

def lieOk (j : Jt) (x : Int) : Bool := inR x 0 2 && !((x != 0) && (j.kind != 3))
def liesP (js : List Jt) (xs : List Int) : Bool := decide (xs.length = js.length) && (js.zip xs).all (fun z => lieOk z.1 z.2)

theorem liesP_bad {js : List Jt} {xs : List Int} {k : Nat} (hj : k < js.length) (hx : k < xs.length) (h : lieOk js[k] xs[k] = false) : liesP js xs = false := by
  have : (js.zip xs).all (fun z => lieOk z.1 z.2) = false := by
    rw [List.all_eq_false]
    refine ⟨(js[k], xs[k]), ?_, by simp [h]⟩
    rw [List.mem_iff_getElem]
    exact ⟨k, by simp; omega, by simp⟩
  simp [liesP, this]

theorem liesP_good {js : List Jt} {xs : List Int} (hl : xs.length = js.length) (h : ∀ k (hj : k < js.length) (hx : k < xs.length), lieOk js[k] xs[k] = true) : liesP js xs = true := by
  have : (js.zip xs).all (fun z => lieOk z.1 z.2) = true := by
    rw [List.all_eq_true]
    intro z hz
    obtain ⟨k, hk, rfl⟩ := List.getElem_of_mem hz
    simp at hk ⊢
    exact h k (by omega) (by omega)
  simp [liesP, this, hl]

end Go.Proofs.YtijdigdcmjdooaaGreat

/- The laws' own helpers on lists of numbers. Own work. -/
namespace Go.Proofs.YtijdigdcmjdooaaGreat
open Go.RowKit
set_option maxHeartbeats 2000000

theorem info_Int : (Tryz.prog.info? 3).map (fun i => (i.zero, i.size, i.bytes)) = some (some (.int .i64 0), 1, 8) := by kernel_rfl

end Go.Proofs.YtijdigdcmjdooaaGreat

/- The laws' own helpers on lists of parts. Own work. -/
namespace Go.Proofs.YtijdigdcmjdooaaGreat
open Go.RowKit
set_option maxHeartbeats 2000000

/-- A list of parts in memory. -/
def PartsAt (w : World) (a : Option Addr) (ps : List (Int × Int × Int)) : Prop :=
  ∀ k (_ : k < ps.length), ∃ b off, a = some ⟨b, off, none⟩ ∧ w.cell? ⟨b, off + k * 3, none⟩ = some (.int .i64 ps[k].1) ∧ w.cell? ⟨b, off + k * 3 + 1, none⟩ = some (.int .i64 ps[k].2.1) ∧ w.cell? ⟨b, off + k * 3 + 2, none⟩ = some (.int .i64 ps[k].2.2)
theorem PartsAt.later {w w' : World} {a ps} (h : PartsAt w a ps) (hb : Below w.heap.size w w') : PartsAt w' a ps := by
  intro k hk
  obtain ⟨b, off, ha, h1, h2, h3⟩ := h k hk
  exact ⟨b, off, ha, cell_later' hb h1, cell_later' hb h2, cell_later' hb h3⟩

end Go.Proofs.YtijdigdcmjdooaaGreat

namespace Go.Proofs.YtijdigdcmjdooaaGreat
open Go.RowKit
set_option maxHeartbeats 1000000

def goodP (N : Nt) (xs : List Int) (q at' way far : Int) : Bool := decide (netOk N = (0, 0)) && liesP N.jts xs && spotP N q at' way && inR far 0 1000000

end Go.Proofs.YtijdigdcmjdooaaGreat

/- More plain lemmas. Own work. -/
namespace Go.Proofs.YtijdigdcmjdooaaGreat

def jb3 (n : Nat) (j : Jt) : Bool := !(inR j.kind 1 4) || ((j.ends.length : Int) != j.kind) || j.ends.any (fun e => !endOk n e)
def jnOk (j : Jt) : Bool := if j.kind < 3 then j.name.toList.isEmpty else nm j.name
theorem jtBad3_jb3 {n : Nat} {js : List Jt} {k : Nat} (hk : k < js.length) : jtBad3 n js k = jb3 n js[k] := by rw [jtBad3_eq hk]; rfl
theorem jb3_none {n : Nat} {j : Jt} (h : j.kind < 1 ∨ 4 < j.kind) : jb3 n j = true := by
  have : inR j.kind 1 4 = false := by rw [Bool.eq_false_iff]; simp [inR]; omega
  simp [jb3, this]
theorem jb3_some {n : Nat} {j : Jt} {c : Int} (h : j.kind = c) (h1 : 1 ≤ c) (h4 : c ≤ 4) : jb3 n j = (((j.ends.length : Int) != c) || j.ends.any (fun e => !endOk n e)) := by
  have : inR j.kind 1 4 = true := by simp [inR]; omega
  rw [jb3, this, h]; rfl
theorem jb3_kind {n : Nat} {j : Jt} (h : jb3 n j = false) : 1 ≤ j.kind ∧ j.kind ≤ 4 := by
  simp [jb3, inR] at h; omega
end Go.Proofs.YtijdigdcmjdooaaGreat

namespace Go.Proofs.YtijdigdcmjdooaaGreat
open Go.RowKit
set_option maxHeartbeats 1000000

/-- The ends over a joint, by the place. -/
def acr (j : Jt) (i : Nat) : List (Int × Int) :=
  if j.kind = 2 then (j.ends[1 - i]?).toList
  else if j.kind = 3 then (if i = 0 then (j.ends[1]?).toList ++ (j.ends[2]?).toList else (j.ends[0]?).toList)
  else if j.kind = 4 then (j.ends[(if i = 0 then 1 else if i = 1 then 0 else if i = 2 then 3 else 2)]?).toList
  else []

/-- A new list of ends. -/
def NewEnds (B : Nat) (w : World) (v : Value) (l : List (Int × Int)) : Prop :=
  ∃ a cap, v = .slice a l.length cap ∧ EndsAt w a l ∧ (l.length = 0 ∨ ∃ b, B ≤ b ∧ a = some ⟨b, 0, none⟩ ∧ Row w b 92 (l.length * 2))

theorem NewEnds.drew {B : Nat} {w : World} {v : Value} {l} (h : NewEnds B w v l) : NewEnds B w.drew v l := h

theorem newEnds_nil (B : Nat) (w : World) : NewEnds B w (.slice none 0 0) [] := ⟨none, 0, rfl, fun k hk => by simp at hk, Or.inl rfl⟩

theorem newEnds_one {B : Nat} {w : World} (W : World) (e : Int × Int) (hB : B ≤ W.heap.size) (hw : w = W.alloc (.cells #[.int .i64 e.1, .int .i64 e.2] 92)) : NewEnds B w (.slice (some ⟨W.heap.size, 0, none⟩) 1 1) [e] := by
  subst hw
  refine ⟨_, 1, rfl, ?_, Or.inr ⟨_, hB, rfl, ⟨fun i => if i = 0 then .int .i64 e.1 else .int .i64 e.2, ?_⟩⟩⟩
  · intro k hk
    have : k = 0 := by simpa using hk
    subst this
    exact ⟨_, 0, rfl, new_cell W _ _ 0 _ rfl, new_cell W _ _ 1 _ rfl⟩
  · have h := World.rowIs_alloc W #[.int .i64 e.1, .int .i64 e.2] 92 (fun i => if i = 0 then .int .i64 e.1 else .int .i64 e.2) (by
      intro i hi
      have : i = 0 ∨ i = 1 := by simp at hi; omega
      rcases this with rfl | rfl <;> rfl)
    exact h

theorem newEnds_two {B : Nat} {w : World} (W : World) (e f : Int × Int) (hB : B ≤ W.heap.size) (hw : w = W.alloc (.cells #[.int .i64 e.1, .int .i64 e.2, .int .i64 f.1, .int .i64 f.2] 92)) : NewEnds B w (.slice (some ⟨W.heap.size, 0, none⟩) 2 2) [e, f] := by
  subst hw
  refine ⟨_, 2, rfl, ?_, Or.inr ⟨_, hB, rfl, ⟨fun i => if i = 0 then .int .i64 e.1 else if i = 1 then .int .i64 e.2 else if i = 2 then .int .i64 f.1 else .int .i64 f.2, ?_⟩⟩⟩
  · intro k hk
    have : k = 0 ∨ k = 1 := by simp at hk; omega
    rcases this with rfl | rfl
    · exact ⟨_, 0, rfl, new_cell W _ _ 0 _ rfl, new_cell W _ _ 1 _ rfl⟩
    · exact ⟨_, 0, rfl, new_cell W _ _ 2 _ rfl, new_cell W _ _ 3 _ rfl⟩
  · have h := World.rowIs_alloc W #[.int .i64 e.1, .int .i64 e.2, .int .i64 f.1, .int .i64 f.2] 92 (fun i => if i = 0 then .int .i64 e.1 else if i = 1 then .int .i64 e.2 else if i = 2 then .int .i64 f.1 else .int .i64 f.2) (by
      intro i hi
      have : i = 0 ∨ i = 1 ∨ i = 2 ∨ i = 3 := by simp at hi; omega
      rcases this with rfl | rfl | rfl | rfl <;> rfl)
    exact h

theorem l1across_1_0 (s : ByteArray) (a : Option Addr) (cap : Nat) (e0 : Int × Int) (w : World) (h : EndsAt w a [e0]) :
    Calls Tryz.prog 39 #[.agg #[.int .i64 1, .string s, .slice a 1 cap], .int .i64 0] w fun e w' =>
    ∃ v, e = .returned v ∧ NewEnds w.heap.size w' v [] ∧ Below w.heap.size w w' := by
  obtain ⟨b, off, rfl, c00, c01⟩ := h 0 (by simp)
  simp at c00 c01
  have hblt := cell_lt c00
  clear h
  have hB : Below w.heap.size w (w.alloc (.cells #[.int .i64 1, .string s, .slice (some ⟨b, off, none⟩) 1 cap] 97)) := (Below.refl _ _).alloc (Nat.le_refl _) _
  go_enter Tryz.func39, Tryz.ntmps39
  go_wp2_with fail
  go_ret
  exact ⟨_, rfl, newEnds_nil _ _, hB⟩

theorem l1across_2_0 (s : ByteArray) (a : Option Addr) (cap : Nat) (e0 e1 : Int × Int) (w : World) (h : EndsAt w a [e0, e1]) :
    Calls Tryz.prog 39 #[.agg #[.int .i64 2, .string s, .slice a 2 cap], .int .i64 0] w fun e w' =>
    ∃ v, e = .returned v ∧ NewEnds w.heap.size w' v [e1] ∧ Below w.heap.size w w' := by
  obtain ⟨b, off, rfl, c00, c01⟩ := h 0 (by simp)
  obtain ⟨b1, off1, hab1, c10, c11⟩ := h 1 (by simp)
  obtain ⟨rfl, rfl⟩ : b = b1 ∧ off = off1 := by simpa using hab1
  clear hab1
  simp at c00 c01 c10 c11
  have hblt := cell_lt c00
  clear h
  have hB : Below w.heap.size w (w.alloc (.cells #[.int .i64 2, .string s, .slice (some ⟨b, off, none⟩) 2 cap] 97)) := (Below.refl _ _).alloc (Nat.le_refl _) _
  go_enter Tryz.func39, Tryz.ntmps39
  go_wp2_with fail
  go_ret
  have H := newEnds_one (B := w.heap.size) (w.alloc (.cells #[.int .i64 2, .string s, .slice (some ⟨b, off, none⟩) 2 cap] 97)) e1 (by simp; try omega) rfl
  simp only [World.size_alloc] at H
  exact ⟨_, rfl, H, (hB.alloc (by simp; try omega) _)⟩

theorem l1across_2_1 (s : ByteArray) (a : Option Addr) (cap : Nat) (e0 e1 : Int × Int) (w : World) (h : EndsAt w a [e0, e1]) :
    Calls Tryz.prog 39 #[.agg #[.int .i64 2, .string s, .slice a 2 cap], .int .i64 1] w fun e w' =>
    ∃ v, e = .returned v ∧ NewEnds w.heap.size w' v [e0] ∧ Below w.heap.size w w' := by
  obtain ⟨b, off, rfl, c00, c01⟩ := h 0 (by simp)
  obtain ⟨b1, off1, hab1, c10, c11⟩ := h 1 (by simp)
  obtain ⟨rfl, rfl⟩ : b = b1 ∧ off = off1 := by simpa using hab1
  clear hab1
  simp at c00 c01 c10 c11
  have hblt := cell_lt c00
  clear h
  have hB : Below w.heap.size w (w.alloc (.cells #[.int .i64 2, .string s, .slice (some ⟨b, off, none⟩) 2 cap] 97)) := (Below.refl _ _).alloc (Nat.le_refl _) _
  go_enter Tryz.func39, Tryz.ntmps39
  go_wp2_with fail
  go_ret
  have H := newEnds_one (B := w.heap.size) (w.alloc (.cells #[.int .i64 2, .string s, .slice (some ⟨b, off, none⟩) 2 cap] 97)) e0 (by simp; try omega) rfl
  simp only [World.size_alloc] at H
  exact ⟨_, rfl, H, (hB.alloc (by simp; try omega) _)⟩

theorem l1across_3_0 (s : ByteArray) (a : Option Addr) (cap : Nat) (e0 e1 e2 : Int × Int) (w : World) (h : EndsAt w a [e0, e1, e2]) :
    Calls Tryz.prog 39 #[.agg #[.int .i64 3, .string s, .slice a 3 cap], .int .i64 0] w fun e w' =>
    ∃ v, e = .returned v ∧ NewEnds w.heap.size w' v [e1, e2] ∧ Below w.heap.size w w' := by
  obtain ⟨b, off, rfl, c00, c01⟩ := h 0 (by simp)
  obtain ⟨b1, off1, hab1, c10, c11⟩ := h 1 (by simp)
  obtain ⟨rfl, rfl⟩ : b = b1 ∧ off = off1 := by simpa using hab1
  clear hab1
  obtain ⟨b2, off2, hab2, c20, c21⟩ := h 2 (by simp)
  obtain ⟨rfl, rfl⟩ : b = b2 ∧ off = off2 := by simpa using hab2
  clear hab2
  simp at c00 c01 c10 c11 c20 c21
  have hblt := cell_lt c00
  clear h
  have hB : Below w.heap.size w (w.alloc (.cells #[.int .i64 3, .string s, .slice (some ⟨b, off, none⟩) 3 cap] 97)) := (Below.refl _ _).alloc (Nat.le_refl _) _
  go_enter Tryz.func39, Tryz.ntmps39
  go_wp2_with fail
  go_region
  go_wp2_with fail
  go_ret
  have H := newEnds_two (B := w.heap.size) (w.alloc (.cells #[.int .i64 3, .string s, .slice (some ⟨b, off, none⟩) 3 cap] 97)) e1 e2 (by simp; try omega) rfl
  simp only [World.size_alloc] at H
  exact ⟨_, rfl, H.drew, (hB.alloc (by simp; try omega) _).drew⟩

theorem l1across_3_1 (s : ByteArray) (a : Option Addr) (cap : Nat) (e0 e1 e2 : Int × Int) (w : World) (h : EndsAt w a [e0, e1, e2]) :
    Calls Tryz.prog 39 #[.agg #[.int .i64 3, .string s, .slice a 3 cap], .int .i64 1] w fun e w' =>
    ∃ v, e = .returned v ∧ NewEnds w.heap.size w' v [e0] ∧ Below w.heap.size w w' := by
  obtain ⟨b, off, rfl, c00, c01⟩ := h 0 (by simp)
  obtain ⟨b1, off1, hab1, c10, c11⟩ := h 1 (by simp)
  obtain ⟨rfl, rfl⟩ : b = b1 ∧ off = off1 := by simpa using hab1
  clear hab1
  obtain ⟨b2, off2, hab2, c20, c21⟩ := h 2 (by simp)
  obtain ⟨rfl, rfl⟩ : b = b2 ∧ off = off2 := by simpa using hab2
  clear hab2
  simp at c00 c01 c10 c11 c20 c21
  have hblt := cell_lt c00
  clear h
  have hB : Below w.heap.size w (w.alloc (.cells #[.int .i64 3, .string s, .slice (some ⟨b, off, none⟩) 3 cap] 97)) := (Below.refl _ _).alloc (Nat.le_refl _) _
  go_enter Tryz.func39, Tryz.ntmps39
  go_wp2_with fail
  go_ret
  have H := newEnds_one (B := w.heap.size) (w.alloc (.cells #[.int .i64 3, .string s, .slice (some ⟨b, off, none⟩) 3 cap] 97)) e0 (by simp; try omega) rfl
  simp only [World.size_alloc] at H
  exact ⟨_, rfl, H, (hB.alloc (by simp; try omega) _)⟩

theorem l1across_3_2 (s : ByteArray) (a : Option Addr) (cap : Nat) (e0 e1 e2 : Int × Int) (w : World) (h : EndsAt w a [e0, e1, e2]) :
    Calls Tryz.prog 39 #[.agg #[.int .i64 3, .string s, .slice a 3 cap], .int .i64 2] w fun e w' =>
    ∃ v, e = .returned v ∧ NewEnds w.heap.size w' v [e0] ∧ Below w.heap.size w w' := by
  obtain ⟨b, off, rfl, c00, c01⟩ := h 0 (by simp)
  obtain ⟨b1, off1, hab1, c10, c11⟩ := h 1 (by simp)
  obtain ⟨rfl, rfl⟩ : b = b1 ∧ off = off1 := by simpa using hab1
  clear hab1
  obtain ⟨b2, off2, hab2, c20, c21⟩ := h 2 (by simp)
  obtain ⟨rfl, rfl⟩ : b = b2 ∧ off = off2 := by simpa using hab2
  clear hab2
  simp at c00 c01 c10 c11 c20 c21
  have hblt := cell_lt c00
  clear h
  have hB : Below w.heap.size w (w.alloc (.cells #[.int .i64 3, .string s, .slice (some ⟨b, off, none⟩) 3 cap] 97)) := (Below.refl _ _).alloc (Nat.le_refl _) _
  go_enter Tryz.func39, Tryz.ntmps39
  go_wp2_with fail
  go_ret
  have H := newEnds_one (B := w.heap.size) (w.alloc (.cells #[.int .i64 3, .string s, .slice (some ⟨b, off, none⟩) 3 cap] 97)) e0 (by simp; try omega) rfl
  simp only [World.size_alloc] at H
  exact ⟨_, rfl, H, (hB.alloc (by simp; try omega) _)⟩

theorem l1across_4_0 (s : ByteArray) (a : Option Addr) (cap : Nat) (e0 e1 e2 e3 : Int × Int) (w : World) (h : EndsAt w a [e0, e1, e2, e3]) :
    Calls Tryz.prog 39 #[.agg #[.int .i64 4, .string s, .slice a 4 cap], .int .i64 0] w fun e w' =>
    ∃ v, e = .returned v ∧ NewEnds w.heap.size w' v [e1] ∧ Below w.heap.size w w' := by
  obtain ⟨b, off, rfl, c00, c01⟩ := h 0 (by simp)
  obtain ⟨b1, off1, hab1, c10, c11⟩ := h 1 (by simp)
  obtain ⟨rfl, rfl⟩ : b = b1 ∧ off = off1 := by simpa using hab1
  clear hab1
  obtain ⟨b2, off2, hab2, c20, c21⟩ := h 2 (by simp)
  obtain ⟨rfl, rfl⟩ : b = b2 ∧ off = off2 := by simpa using hab2
  clear hab2
  obtain ⟨b3, off3, hab3, c30, c31⟩ := h 3 (by simp)
  obtain ⟨rfl, rfl⟩ : b = b3 ∧ off = off3 := by simpa using hab3
  clear hab3
  simp at c00 c01 c10 c11 c20 c21 c30 c31
  have hblt := cell_lt c00
  clear h
  have hB : Below w.heap.size w (w.alloc (.cells #[.int .i64 4, .string s, .slice (some ⟨b, off, none⟩) 4 cap] 97)) := (Below.refl _ _).alloc (Nat.le_refl _) _
  have hB2 : Below w.heap.size w ((w.alloc (.cells #[.int .i64 4, .string s, .slice (some ⟨b, off, none⟩) 4 cap] 97)).alloc (.cells #[.int .i64 1, .int .i64 0, .int .i64 3, .int .i64 2] 3)) := hB.alloc (by simp) _
  go_enter Tryz.func39, Tryz.ntmps39
  go_wp2_with fail
  go_region
  go_wp2_with fail
  go_ret
  have H := newEnds_one (B := w.heap.size) ((w.alloc (.cells #[.int .i64 4, .string s, .slice (some ⟨b, off, none⟩) 4 cap] 97)).alloc (.cells #[.int .i64 1, .int .i64 0, .int .i64 3, .int .i64 2] 3)) e1 (by simp; try omega) rfl
  simp only [World.size_alloc] at H
  exact ⟨_, rfl, H.drew, (hB2.alloc (by simp; try omega) _).drew⟩

theorem l1across_4_1 (s : ByteArray) (a : Option Addr) (cap : Nat) (e0 e1 e2 e3 : Int × Int) (w : World) (h : EndsAt w a [e0, e1, e2, e3]) :
    Calls Tryz.prog 39 #[.agg #[.int .i64 4, .string s, .slice a 4 cap], .int .i64 1] w fun e w' =>
    ∃ v, e = .returned v ∧ NewEnds w.heap.size w' v [e0] ∧ Below w.heap.size w w' := by
  obtain ⟨b, off, rfl, c00, c01⟩ := h 0 (by simp)
  obtain ⟨b1, off1, hab1, c10, c11⟩ := h 1 (by simp)
  obtain ⟨rfl, rfl⟩ : b = b1 ∧ off = off1 := by simpa using hab1
  clear hab1
  obtain ⟨b2, off2, hab2, c20, c21⟩ := h 2 (by simp)
  obtain ⟨rfl, rfl⟩ : b = b2 ∧ off = off2 := by simpa using hab2
  clear hab2
  obtain ⟨b3, off3, hab3, c30, c31⟩ := h 3 (by simp)
  obtain ⟨rfl, rfl⟩ : b = b3 ∧ off = off3 := by simpa using hab3
  clear hab3
  simp at c00 c01 c10 c11 c20 c21 c30 c31
  have hblt := cell_lt c00
  clear h
  have hB : Below w.heap.size w (w.alloc (.cells #[.int .i64 4, .string s, .slice (some ⟨b, off, none⟩) 4 cap] 97)) := (Below.refl _ _).alloc (Nat.le_refl _) _
  have hB2 : Below w.heap.size w ((w.alloc (.cells #[.int .i64 4, .string s, .slice (some ⟨b, off, none⟩) 4 cap] 97)).alloc (.cells #[.int .i64 1, .int .i64 0, .int .i64 3, .int .i64 2] 3)) := hB.alloc (by simp) _
  go_enter Tryz.func39, Tryz.ntmps39
  go_wp2_with fail
  go_region
  go_wp2_with fail
  go_ret
  have H := newEnds_one (B := w.heap.size) ((w.alloc (.cells #[.int .i64 4, .string s, .slice (some ⟨b, off, none⟩) 4 cap] 97)).alloc (.cells #[.int .i64 1, .int .i64 0, .int .i64 3, .int .i64 2] 3)) e0 (by simp; try omega) rfl
  simp only [World.size_alloc] at H
  exact ⟨_, rfl, H.drew, (hB2.alloc (by simp; try omega) _).drew⟩

theorem l1across_4_2 (s : ByteArray) (a : Option Addr) (cap : Nat) (e0 e1 e2 e3 : Int × Int) (w : World) (h : EndsAt w a [e0, e1, e2, e3]) :
    Calls Tryz.prog 39 #[.agg #[.int .i64 4, .string s, .slice a 4 cap], .int .i64 2] w fun e w' =>
    ∃ v, e = .returned v ∧ NewEnds w.heap.size w' v [e3] ∧ Below w.heap.size w w' := by
  obtain ⟨b, off, rfl, c00, c01⟩ := h 0 (by simp)
  obtain ⟨b1, off1, hab1, c10, c11⟩ := h 1 (by simp)
  obtain ⟨rfl, rfl⟩ : b = b1 ∧ off = off1 := by simpa using hab1
  clear hab1
  obtain ⟨b2, off2, hab2, c20, c21⟩ := h 2 (by simp)
  obtain ⟨rfl, rfl⟩ : b = b2 ∧ off = off2 := by simpa using hab2
  clear hab2
  obtain ⟨b3, off3, hab3, c30, c31⟩ := h 3 (by simp)
  obtain ⟨rfl, rfl⟩ : b = b3 ∧ off = off3 := by simpa using hab3
  clear hab3
  simp at c00 c01 c10 c11 c20 c21 c30 c31
  have hblt := cell_lt c00
  clear h
  have hB : Below w.heap.size w (w.alloc (.cells #[.int .i64 4, .string s, .slice (some ⟨b, off, none⟩) 4 cap] 97)) := (Below.refl _ _).alloc (Nat.le_refl _) _
  have hB2 : Below w.heap.size w ((w.alloc (.cells #[.int .i64 4, .string s, .slice (some ⟨b, off, none⟩) 4 cap] 97)).alloc (.cells #[.int .i64 1, .int .i64 0, .int .i64 3, .int .i64 2] 3)) := hB.alloc (by simp) _
  go_enter Tryz.func39, Tryz.ntmps39
  go_wp2_with fail
  go_region
  go_wp2_with fail
  go_ret
  have H := newEnds_one (B := w.heap.size) ((w.alloc (.cells #[.int .i64 4, .string s, .slice (some ⟨b, off, none⟩) 4 cap] 97)).alloc (.cells #[.int .i64 1, .int .i64 0, .int .i64 3, .int .i64 2] 3)) e3 (by simp; try omega) rfl
  simp only [World.size_alloc] at H
  exact ⟨_, rfl, H.drew, (hB2.alloc (by simp; try omega) _).drew⟩

theorem l1across_4_3 (s : ByteArray) (a : Option Addr) (cap : Nat) (e0 e1 e2 e3 : Int × Int) (w : World) (h : EndsAt w a [e0, e1, e2, e3]) :
    Calls Tryz.prog 39 #[.agg #[.int .i64 4, .string s, .slice a 4 cap], .int .i64 3] w fun e w' =>
    ∃ v, e = .returned v ∧ NewEnds w.heap.size w' v [e2] ∧ Below w.heap.size w w' := by
  obtain ⟨b, off, rfl, c00, c01⟩ := h 0 (by simp)
  obtain ⟨b1, off1, hab1, c10, c11⟩ := h 1 (by simp)
  obtain ⟨rfl, rfl⟩ : b = b1 ∧ off = off1 := by simpa using hab1
  clear hab1
  obtain ⟨b2, off2, hab2, c20, c21⟩ := h 2 (by simp)
  obtain ⟨rfl, rfl⟩ : b = b2 ∧ off = off2 := by simpa using hab2
  clear hab2
  obtain ⟨b3, off3, hab3, c30, c31⟩ := h 3 (by simp)
  obtain ⟨rfl, rfl⟩ : b = b3 ∧ off = off3 := by simpa using hab3
  clear hab3
  simp at c00 c01 c10 c11 c20 c21 c30 c31
  have hblt := cell_lt c00
  clear h
  have hB : Below w.heap.size w (w.alloc (.cells #[.int .i64 4, .string s, .slice (some ⟨b, off, none⟩) 4 cap] 97)) := (Below.refl _ _).alloc (Nat.le_refl _) _
  have hB2 : Below w.heap.size w ((w.alloc (.cells #[.int .i64 4, .string s, .slice (some ⟨b, off, none⟩) 4 cap] 97)).alloc (.cells #[.int .i64 1, .int .i64 0, .int .i64 3, .int .i64 2] 3)) := hB.alloc (by simp) _
  go_enter Tryz.func39, Tryz.ntmps39
  go_wp2_with fail
  go_region
  go_wp2_with fail
  go_ret
  have H := newEnds_one (B := w.heap.size) ((w.alloc (.cells #[.int .i64 4, .string s, .slice (some ⟨b, off, none⟩) 4 cap] 97)).alloc (.cells #[.int .i64 1, .int .i64 0, .int .i64 3, .int .i64 2] 3)) e2 (by simp; try omega) rfl
  simp only [World.size_alloc] at H
  exact ⟨_, rfl, H.drew, (hB2.alloc (by simp; try omega) _).drew⟩
end Go.Proofs.YtijdigdcmjdooaaGreat

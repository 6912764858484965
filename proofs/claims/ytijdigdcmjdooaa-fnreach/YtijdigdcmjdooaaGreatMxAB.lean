import Derived.Test.YtijdigdcmjdooaaGreatMxAA
import Derived.Deep.RegionWith
import Derived.Deep.RegionHeld3
import Derived.Deep.DeepCutAuto
import Derived.Deep.Light
import Derived.Deep.QuietTactic
import Derived.BigQuiet
namespace Go.Proofs.YtijdigdcmjdooaaGreat
open Go.RowKit
set_option maxHeartbeats 2000000

theorem toSpot_any (q at' way : Int) (w : World) :
    Calls Tryz.prog 16 #[.agg #[.int .i64 q, .int .i64 at', .int .i64 way]] w fun e w' =>
    e = .returned (.agg #[.int .i64 q, .int .i64 at', .int .i64 way]) ∧ Below w.heap.size w w' := by
  go_enter Tryz.func16, Tryz.ntmps16
  go_wp2
  exact bodyPost_ret (v := .agg #[.int .i64 q, .int .i64 at', .int .i64 way]) (by simp [results, Tryz.results16, go_sem]) rfl ⟨rfl, (((Below.refl _ _).alloc (Nat.le_refl _) _).alloc (by simp) _).alloc (by simp; omega) _⟩

theorem eqSpot_same (q at' way : Int) (w : World) : Calls Tryz.prog 49 #[.agg #[.int .i64 q, .int .i64 at', .int .i64 way], .agg #[.int .i64 q, .int .i64 at', .int .i64 way]] w fun e w' =>
    e = .returned (.bool true) ∧ Below w.heap.size w w' := by
  go_enter Tryz.func49, Tryz.ntmps49
  go_wp2
  go_ret
  exact ⟨rfl, ((Below.refl _ _).alloc (Nat.le_refl _) _).alloc (by simp) _⟩
end Go.Proofs.YtijdigdcmjdooaaGreat

namespace Go.Proofs.YtijdigdcmjdooaaGreat
open Go.RowKit
set_option maxHeartbeats 400000

theorem eqEnd_same (c a : Int) (w : World) : Calls Tryz.prog 134 #[.agg #[.int .i64 c, .int .i64 a], .agg #[.int .i64 c, .int .i64 a]] w fun e w' =>
    e = .returned (.bool true) ∧ Below w.heap.size w w' := by
  go_enter Tryz.func134, Tryz.ntmps134
  go_wp2
  go_ret
  exact ⟨rfl, ((Below.refl _ _).alloc (Nat.le_refl _) _).alloc (by simp) _⟩

theorem eqPiece_same (p : Pc) (w : World) : Calls Tryz.prog 77 #[.agg #[.string p.name, .int .i64 p.len, .int .i64 p.speed, .int .i64 p.brake], .agg #[.string p.name, .int .i64 p.len, .int .i64 p.speed, .int .i64 p.brake]] w fun e w' =>
    e = .returned (.bool true) ∧ Below w.heap.size w w' := by
  go_enter Tryz.func77, Tryz.ntmps77
  go_wp2
  go_ret
  exact ⟨rfl, ((Below.refl _ _).alloc (Nat.le_refl _) _).alloc (by simp) _⟩

theorem eqEndS_same (a a' : Option Addr) (es : List (Int × Int)) (cap cap' : Nat) (w : World) (hn : es.length ≤ 1048576) (hp : EndsAt w a es) (hp' : EndsAt w a' es) :
    Calls Tryz.prog 109 #[.slice a es.length cap, .slice a' es.length cap'] w fun e w' =>
    e = .returned (.bool true) ∧ Below w.heap.size w w' := by
  have HP := hide hp
  have HP' := hide hp'
  clear hp hp'
  go_enter Tryz.func109, Tryz.ntmps109
  go_wp2
  go_loopw [5] (fun i wr => ∃ (k : Nat), k ≤ es.length ∧ i = .int .i64 k ∧ Below w.heap.size w wr) (fun i _ => es.length - (intOf i).toNat)
  case atStart => exact ⟨0, Nat.zero_le _, rfl, Below.refl _ _⟩
  case round =>
    obtain ⟨k, hk, rfl, hb⟩ := hrel
    by_cases hlt : k < es.length
    · obtain ⟨b, off, rfl, c0, c1⟩ := (EndsAt.later HP.out hb) k hlt
      obtain ⟨b', off', rfl, c0', c1'⟩ := (EndsAt.later HP'.out hb) k hlt
      go_wp2_with fail
      go_region_with (go_at_call 134; refine (eqEnd_same _ _ _).mono ?_; rintro e w1 ⟨rfl, hb1⟩)
      all_goals
        have hb2 := hb.trans (Below.mono (Below.trans (Below.drew (Below.refl _ _)) hb1) hb.size)
        go_wp2_with fail
        go_roundw
        case rel => exact ⟨k + 1, by omega, by go_num, hb2⟩
        case measure => simp [intOf]; omega
    · go_wp2_with fail
      go_ret
      exact ⟨rfl, hb⟩

theorem eqPieceS_same (a a' : Option Addr) (es : List Pc) (cap cap' : Nat) (w : World) (hn : es.length ≤ 1048576) (hp : PcsAt w a es) (hp' : PcsAt w a' es) :
    Calls Tryz.prog 50 #[.slice a es.length cap, .slice a' es.length cap'] w fun e w' =>
    e = .returned (.bool true) ∧ Below w.heap.size w w' := by
  have HP := hide hp
  have HP' := hide hp'
  clear hp hp'
  go_enter Tryz.func50, Tryz.ntmps50
  go_wp2
  go_loopw [5] (fun i wr => ∃ (k : Nat), k ≤ es.length ∧ i = .int .i64 k ∧ Below w.heap.size w wr) (fun i _ => es.length - (intOf i).toNat)
  case atStart => exact ⟨0, Nat.zero_le _, rfl, Below.refl _ _⟩
  case round =>
    obtain ⟨k, hk, rfl, hb⟩ := hrel
    by_cases hlt : k < es.length
    · obtain ⟨b, off, rfl, c0, c1, c2, c3⟩ := (PcsAt.later HP.out hb) k hlt
      obtain ⟨b', off', rfl, c0', c1', c2', c3'⟩ := (PcsAt.later HP'.out hb) k hlt
      go_wp2_with fail
      go_region_with (go_at_call 77; refine (eqPiece_same es[k] _).mono ?_; rintro e w1 ⟨rfl, hb1⟩)
      all_goals
        have hb2 := hb.trans (Below.mono (Below.trans (Below.drew (Below.refl _ _)) hb1) hb.size)
        go_wp2_with fail
        go_roundw
        case rel => exact ⟨k + 1, by omega, by go_num, hb2⟩
        case measure => simp [intOf]; omega
    · go_wp2_with fail
      go_ret
      exact ⟨rfl, hb⟩

theorem eqJoint_same (j : Jt) (a a' : Option Addr) (cap cap' : Nat) (w : World) (hn : j.ends.length ≤ 1048576) (hp : EndsAt w a j.ends) (hp' : EndsAt w a' j.ends) :
    Calls Tryz.prog 78 #[.agg #[.int .i64 j.kind, .string j.name, .slice a j.ends.length cap], .agg #[.int .i64 j.kind, .string j.name, .slice a' j.ends.length cap']] w fun e w' =>
    e = .returned (.bool true) ∧ Below w.heap.size w w' := by
  have HP := hide hp
  have HP' := hide hp'
  clear hp hp'
  go_enter Tryz.func78, Tryz.ntmps78
  go_wp2_with fail
  have hbW : Below w.heap.size w ((w.alloc (.cells #[.int .i64 j.kind, .string j.name, .slice a j.ends.length cap] 97)).alloc (.cells #[.int .i64 j.kind, .string j.name, .slice a' j.ends.length cap'] 97)) := ((Below.refl _ _).alloc (Nat.le_refl _) _).alloc (by simp) _
  refine (eqEndS_same a a' j.ends cap cap' _ hn (HP.out.later hbW) (HP'.out.later hbW)).mono ?_
  rintro e w1 ⟨rfl, hb1⟩
  have hb2 := hbW.trans (hb1.mono hbW.size)
  go_wp2_with fail
  go_ret
  exact ⟨rfl, hb2⟩

theorem eqJointS_same (a a' : Option Addr) (es : List Jt) (cap cap' : Nat) (w : World) (hn : es.length ≤ 1048576) (hm : ∀ j ∈ es, j.ends.length ≤ 1048576) (hp : JtsAt w a es) (hp' : JtsAt w a' es) :
    Calls Tryz.prog 51 #[.slice a es.length cap, .slice a' es.length cap'] w fun e w' =>
    e = .returned (.bool true) ∧ Below w.heap.size w w' := by
  have HP := hide hp
  have HP' := hide hp'
  have HM := hide hm
  clear hp hp' hm
  go_enter Tryz.func51, Tryz.ntmps51
  go_wp2
  go_loopw [5] (fun i wr => ∃ (k : Nat), k ≤ es.length ∧ i = .int .i64 k ∧ Below w.heap.size w wr) (fun i _ => es.length - (intOf i).toNat)
  case atStart => exact ⟨0, Nat.zero_le _, rfl, Below.refl _ _⟩
  case round =>
    obtain ⟨k, hk, rfl, hb⟩ := hrel
    by_cases hlt : k < es.length
    · obtain ⟨b, off, ea, ec, rfl, c0, c1, c2, ce⟩ := (JtsAt.later HP.out hb) k hlt
      obtain ⟨b', off', ea', ec', rfl, c0', c1', c2', ce'⟩ := (JtsAt.later HP'.out hb) k hlt
      have CE := hide ce
      have CE' := hide ce'
      have hm := HM.out _ (List.getElem_mem hlt)
      clear ce ce'
      go_wp2_with fail
      go_region_with (go_at_call 78; refine (eqJoint_same es[k] _ _ _ _ _ hm ?_ ?_).mono ?_; exact EndsAt.later CE.out (Below.drew (Below.refl _ _)); exact EndsAt.later CE'.out (Below.drew (Below.refl _ _)); rintro e w1 ⟨rfl, hb1⟩)
      all_goals
        have hb2 := hb.trans (Below.mono (Below.trans (Below.drew (Below.refl _ _)) hb1) hb.size)
        go_wp2_with fail
        go_roundw
        case rel => exact ⟨k + 1, by omega, by go_num, hb2⟩
        case measure => simp [intOf]; omega
    · go_wp2_with fail
      go_ret
      exact ⟨rfl, hb⟩

theorem eqNet_same (a a' b b' : Option Addr) (N : Nt) (ca ca' cb cb' : Nat) (w : World) (hn : N.pcs.length ≤ 1048576) (hn' : N.jts.length ≤ 1048576) (hm : ∀ j ∈ N.jts, j.ends.length ≤ 1048576) (hp : PcsAt w a N.pcs) (hp' : PcsAt w a' N.pcs) (hj : JtsAt w b N.jts) (hj' : JtsAt w b' N.jts) :
    Calls Tryz.prog 18 #[.agg #[.slice a N.pcs.length ca, .slice b N.jts.length cb], .agg #[.slice a' N.pcs.length ca', .slice b' N.jts.length cb']] w fun e w' =>
    e = .returned (.bool true) ∧ Below w.heap.size w w' := by
  have HP := hide hp
  have HP' := hide hp'
  have HJ := hide hj
  have HJ' := hide hj'
  have HM := hide hm
  clear hp hp' hj hj' hm
  go_enter Tryz.func18, Tryz.ntmps18
  go_wp2_with fail
  have hbW : Below w.heap.size w ((w.alloc (.cells #[.slice a N.pcs.length ca, .slice b N.jts.length cb] 26)).alloc (.cells #[.slice a' N.pcs.length ca', .slice b' N.jts.length cb'] 26)) := ((Below.refl _ _).alloc (Nat.le_refl _) _).alloc (by simp) _
  refine (eqPieceS_same a a' N.pcs ca ca' _ hn (HP.out.later hbW) (HP'.out.later hbW)).mono ?_
  rintro e w1 ⟨rfl, hb1⟩
  have hb2 := hbW.trans (hb1.mono hbW.size)
  obtain ⟨hc, hf⟩ := bcell hb1
  go_wp2_with fail
  refine (eqJointS_same b b' N.jts cb cb' _ hn' HM.out (HJ.out.later hb2) (HJ'.out.later hb2)).mono ?_
  rintro e w2 ⟨rfl, hb3⟩
  have hb4 := hb2.trans (hb3.mono hb2.size)
  go_wp2_with fail
  go_ret
  exact ⟨rfl, hb4⟩
end Go.Proofs.YtijdigdcmjdooaaGreat

/- What the laws' walks of chapter 3 have in common. Own work. -/
namespace Go.Proofs.YtijdigdcmjdooaaGreat
open Go.RowKit
set_option maxHeartbeats 2000000

theorem chn {a b c : World} (h : Below a.heap.size a b) (k : Below b.heap.size b c) : Below a.heap.size a c := h.trans (k.mono h.size)

def Wf3 (q at' way : Int) : Prop := (Lit.int .i64 q).wf = true ∧ (Lit.int .i64 at').wf = true ∧ (Lit.int .i64 way).wf = true

/-- The law's two boxes, and what has come since. -/
abbrev LS (w w1 w' : World) (v0 v1 : Value) (q at' way : Int) : Prop :=
  (w'.cell? ⟨w.heap.size, 0, none⟩ = some v0 ∧ w'.cell? ⟨w.heap.size, 1, none⟩ = some v1 ∧ w'.cell? ⟨w.heap.size + 1, 0, none⟩ = some (.int .i64 q) ∧ w'.cell? ⟨w.heap.size + 1, 1, none⟩ = some (.int .i64 at') ∧ w'.cell? ⟨w.heap.size + 1, 2, none⟩ = some (.int .i64 way)) ∧ Hid (Below w1.heap.size w1 w')
theorem keepL {w w1 w2 w3 : World} {v0 v1 : Value} {q at' way : Int} (hb : Below w2.heap.size w2 w3) (h : LS w w1 w2 v0 v1 q at' way) : LS w w1 w3 v0 v1 q at' way :=
  ⟨⟨cell_later' hb h.1.1, cell_later' hb h.1.2.1, cell_later' hb h.1.2.2.1, cell_later' hb h.1.2.2.2.1, cell_later' hb h.1.2.2.2.2⟩, h.2.out.trans (hb.mono h.2.out.size)⟩
theorem heldB {p : Prop} {w1 w' : World} (h : p ∧ Hid (Below w1.heap.size w1 w')) : Below w1.heap.size w1 w' := h.2
/-- And a box with a net. -/
abbrev LS2 (w w1 w' : World) (v0 v1 : Value) (q at' way : Int) (b : Nat) (u0 u1 : Value) : Prop := LS w w1 w' v0 v1 q at' way ∧ w'.cell? ⟨b, 0, none⟩ = some u0 ∧ w'.cell? ⟨b, 1, none⟩ = some u1
theorem keepL2 {w w1 w2 w3 : World} {v0 v1 u0 u1 : Value} {q at' way : Int} {b : Nat} (hb : Below w2.heap.size w2 w3) (h : LS2 w w1 w2 v0 v1 q at' way b u0 u1) : LS2 w w1 w3 v0 v1 q at' way b u0 u1 :=
  ⟨keepL hb h.1, cell_later' hb h.2.1, cell_later' hb h.2.2⟩
end Go.Proofs.YtijdigdcmjdooaaGreat

/- Plain functions: what NetOk, JointAt and Across come to. Own work; imports nothing of the dump. -/
namespace Go.Proofs.YtijdigdcmjdooaaGreat

def byteOk (c : UInt8) : Bool := (decide (97 ≤ (c.toNat : Int)) && decide ((c.toNat : Int) ≤ 122)) || (decide (48 ≤ (c.toNat : Int)) && decide ((c.toNat : Int) ≤ 57)) || ((c.toNat : Int) == 95)
theorem byteOk_true {c : UInt8} (h : (97 ≤ (c.toNat : Int) ∧ (c.toNat : Int) ≤ 122) ∨ (48 ≤ (c.toNat : Int) ∧ (c.toNat : Int) ≤ 57) ∨ (c.toNat : Int) = 95) : byteOk c = true := by
  simp [byteOk]; omega
theorem byteOk_false {c : UInt8} (h : ¬ ((97 ≤ (c.toNat : Int) ∧ (c.toNat : Int) ≤ 122) ∨ (48 ≤ (c.toNat : Int) ∧ (c.toNat : Int) ≤ 57) ∨ (c.toNat : Int) = 95)) : byteOk c = false := by
  simp [byteOk]; omega
def nm (s : ByteArray) : Bool := s.data.toList.all byteOk && decide (1 ≤ s.size) && decide (s.size ≤ 20)

theorem nm_all (s : ByteArray) (h : ∀ j (hj : j < s.size), byteOk s[j] = true) : nm s = (decide (1 ≤ s.size) && decide (s.size ≤ 20)) := by
  have : s.data.toList.all byteOk = true := by
    rw [List.all_eq_true]
    intro x hx
    obtain ⟨j, hj, rfl⟩ := List.getElem_of_mem hx
    exact h j (by simpa using hj)
  simp [nm, this]

theorem nm_bad (s : ByteArray) (j : Nat) (hj : j < s.size) (h : byteOk s[j] = false) : nm s = false := by
  have : s.data.toList.all byteOk = false := by
    rw [List.all_eq_false]
    refine ⟨s[j], ?_, by simp [h]⟩
    have : s[j] = s.data.toList[j]'(by simpa using hj) := by rfl
    rw [this]; exact List.getElem_mem _
  simp [nm, this]

def inR (x a b : Int) : Bool := decide (a ≤ x) && decide (x ≤ b)

/-- The first index below n at which p holds. -/
def first (p : Nat → Bool) : Nat → Option Nat
  | 0 => none
  | n + 1 => match first p n with
    | some i => some i
    | none => if p n then some n else none

theorem first_none {p : Nat → Bool} {n : Nat} (h : ∀ j, j < n → p j = false) : first p n = none := by
  induction n with
  | zero => rfl
  | succ n ih => simp [first, ih (fun j hj => h j (by omega)), h n (by omega)]

theorem first_some {p : Nat → Bool} {n i : Nat} (hi : i < n) (h : p i = true) (hj : ∀ j, j < i → p j = false) : first p n = some i := by
  induction n with
  | zero => omega
  | succ n ih =>
    by_cases e : i = n
    · subst e; simp [first, first_none hj, h]
    · simp [first, ih (by omega)]

theorem first_cases (p : Nat → Bool) (n : Nat) : (first p n = none ∧ ∀ j, j < n → p j = false) ∨ ∃ i, i < n ∧ first p n = some i ∧ p i = true ∧ ∀ j, j < i → p j = false := by
  induction n with
  | zero => exact Or.inl ⟨rfl, by omega⟩
  | succ n ih =>
    rcases ih with ⟨h1, h2⟩ | ⟨i, h1, h2, h3, h4⟩
    · by_cases h : p n = true
      · exact Or.inr ⟨n, by omega, by simp [first, h1, h], h, h2⟩
      · refine Or.inl ⟨by simp [first, h1, h], fun j hj => ?_⟩
        by_cases e : j = n
        · subst e; simpa using h
        · exact h2 j (by omega)
    · exact Or.inr ⟨i, by omega, by simp [first, h2], h3, h4⟩

/-- As a number: -1 for none. -/
def firstI (p : Nat → Bool) (n : Nat) : Int := match first p n with | some i => i | none => -1

theorem firstI_none {p : Nat → Bool} {n : Nat} (h : ∀ j, j < n → p j = false) : firstI p n = -1 := by simp [firstI, first_none h]
theorem firstI_some {p : Nat → Bool} {n i : Nat} (hi : i < n) (h : p i = true) (hj : ∀ j, j < i → p j = false) : firstI p n = i := by simp [firstI, first_some hi h hj]

def Pc.ok (p : Pc) : Bool := nm p.name && inR p.len 1 10000000 && inR p.speed 1 10000 && inR p.brake 1 1000
/-- Piece k is not as said, or has the name of one ahead of it. -/
def pcBad (ps : List Pc) (k : Nat) : Bool := match ps[k]? with
  | some p => !p.ok || (ps.take k).any (fun q => q.name.toList == p.name.toList)
  | none => false

def endOk (n : Nat) (e : Int × Int) : Bool := inR e.1 0 ((n : Int) - 1) && inR e.2 0 1
def jtBad3 (n : Nat) (js : List Jt) (k : Nat) : Bool := match js[k]? with
  | some j => !(inR j.kind 1 4) || ((j.ends.length : Int) != j.kind) || j.ends.any (fun e => !endOk n e)
  | none => false
def jtBad4 (js : List Jt) (k : Nat) : Bool := match js[k]? with
  | some j => if j.kind < 3 then !j.name.toList.isEmpty else !nm j.name || (js.take k).any (fun q => q.name.toList == j.name.toList)
  | none => false
def allEnds (js : List Jt) : List (Int × Int) := js.flatMap (·.ends)
def uses (js : List Jt) (e : Int × Int) : Nat := (allEnds js).count e
def pcBad5 (js : List Jt) (k : Nat) : Bool := (uses js ((k : Int), 0) != 1) || (uses js ((k : Int), 1) != 1)

def sizeBad (N : Nt) : Bool := decide (N.pcs.length = 0) || decide (100 < N.pcs.length) || decide (120 < N.jts.length)

def netOk (N : Nt) : Int × Int :=
  if sizeBad N then (1, 0) else
  match first (pcBad N.pcs) N.pcs.length with
  | some i => (2, i)
  | none => match first (jtBad3 N.pcs.length N.jts) N.jts.length with
    | some i => (3, i)
    | none => match first (jtBad4 N.jts) N.jts.length with
      | some i => (4, i)
      | none => match first (pcBad5 N.jts) N.pcs.length with
        | some i => (5, i)
        | none => (0, 0)

def jcode (n : Nat) (js : List Jt) (k : Nat) : Int := if jtBad3 n js k then 3 else if jtBad4 js k then 4 else 0

theorem jtBad3_eq {n : Nat} {js : List Jt} {k : Nat} (hk : k < js.length) : jtBad3 n js k = (!(inR js[k].kind 1 4) || ((js[k].ends.length : Int) != js[k].kind) || js[k].ends.any (fun e => !endOk n e)) := by
  simp [jtBad3, hk]
theorem jtBad4_eq {js : List Jt} {k : Nat} (hk : k < js.length) : jtBad4 js k = (if js[k].kind < 3 then !js[k].name.toList.isEmpty else !nm js[k].name || (js.take k).any (fun q => q.name.toList == js[k].name.toList)) := by
  simp [jtBad4, hk]
theorem pcBad_eq {ps : List Pc} {k : Nat} (hk : k < ps.length) : pcBad ps k = (!ps[k].ok || (ps.take k).any (fun q => q.name.toList == ps[k].name.toList)) := by
  simp [pcBad, hk]
theorem any_take_true {α : Type} {l : List α} {p : α → Bool} {k u : Nat} (hu : u < k) (hl : u < l.length) (h : p l[u] = true) : (l.take k).any p = true := by
  rw [List.any_eq_true]
  refine ⟨l[u], ?_, h⟩
  rw [List.mem_take_iff_getElem]
  exact ⟨u, by omega, rfl⟩
theorem any_take_false {α : Type} {l : List α} {p : α → Bool} {k : Nat} (h : ∀ u (_ : u < k) (hl : u < l.length), p l[u] = false) : (l.take k).any p = false := by
  rw [List.any_eq_false]
  intro x hx
  rw [List.mem_take_iff_getElem] at hx
  obtain ⟨u, hu, rfl⟩ := hx
  simp [h u (by omega) (by omega)]
theorem any_false' {α : Type} {l : List α} {p : α → Bool} (h : ∀ u (hl : u < l.length), p l[u] = false) : l.any p = false := by
  have := any_take_false (l := l) (p := p) (k := l.length) (fun u _ hl => h u hl)
  rwa [List.take_length] at this
theorem any_true' {α : Type} {l : List α} {p : α → Bool} {u : Nat} (hl : u < l.length) (h : p l[u] = true) : l.any p = true := by
  rw [List.any_eq_true]; exact ⟨l[u], List.getElem_mem hl, h⟩

theorem netOk_1 {N : Nt} (h : sizeBad N = true) : netOk N = (1, 0) := by simp [netOk, h]
theorem netOk_2 {N : Nt} (h : sizeBad N = false) {i : Nat} (hi : i < N.pcs.length) (hb : pcBad N.pcs i = true) (hj : ∀ j, j < i → pcBad N.pcs j = false) : netOk N = (2, (i : Int)) := by
  simp [netOk, h, first_some hi hb hj]
theorem netOk_3 {N : Nt} (h : sizeBad N = false) (h2 : ∀ j, j < N.pcs.length → pcBad N.pcs j = false) {i : Nat} (hi : i < N.jts.length) (hb : jtBad3 N.pcs.length N.jts i = true) (hj : ∀ j, j < i → jtBad3 N.pcs.length N.jts j = false) : netOk N = (3, (i : Int)) := by
  simp [netOk, h, first_none h2, first_some hi hb hj]
theorem netOk_4 {N : Nt} (h : sizeBad N = false) (h2 : ∀ j, j < N.pcs.length → pcBad N.pcs j = false) (h3 : ∀ j, j < N.jts.length → jtBad3 N.pcs.length N.jts j = false) {i : Nat} (hi : i < N.jts.length) (hb : jtBad4 N.jts i = true) (hj : ∀ j, j < i → jtBad4 N.jts j = false) : netOk N = (4, (i : Int)) := by
  simp [netOk, h, first_none h2, first_none h3, first_some hi hb hj]
theorem netOk_5 {N : Nt} (h : sizeBad N = false) (h2 : ∀ j, j < N.pcs.length → pcBad N.pcs j = false) (h3 : ∀ j, j < N.jts.length → jtBad3 N.pcs.length N.jts j = false) (h4 : ∀ j, j < N.jts.length → jtBad4 N.jts j = false) {i : Nat} (hi : i < N.pcs.length) (hb : pcBad5 N.jts i = true) (hj : ∀ j, j < i → pcBad5 N.jts j = false) : netOk N = (5, (i : Int)) := by
  simp [netOk, h, first_none h2, first_none h3, first_none h4, first_some hi hb hj]
theorem netOk_0 {N : Nt} (h : sizeBad N = false) (h2 : ∀ j, j < N.pcs.length → pcBad N.pcs j = false) (h3 : ∀ j, j < N.jts.length → jtBad3 N.pcs.length N.jts j = false) (h4 : ∀ j, j < N.jts.length → jtBad4 N.jts j = false) (h5 : ∀ j, j < N.pcs.length → pcBad5 N.jts j = false) : netOk N = (0, 0) := by
  simp [netOk, h, first_none h2, first_none h3, first_none h4, first_none h5]

theorem jcode_3 {n js k} : (jcode n js k == 3) = jtBad3 n js k := by
  unfold jcode; cases jtBad3 n js k <;> cases jtBad4 js k <;> rfl
theorem jcode_4 {n js k} (h : jtBad3 n js k = false) : (jcode n js k == 4) = jtBad4 js k := by
  unfold jcode; rw [h]; cases jtBad4 js k <;> rfl
theorem pcBad5_false {js : List Jt} {k : Nat} (h0 : uses js ((k : Int), 0) = 1) (h1 : uses js ((k : Int), 1) = 1) : pcBad5 js k = false := by simp [pcBad5, h0, h1]
theorem pcBad5_true0 {js : List Jt} {k : Nat} (h0 : uses js ((k : Int), 0) ≠ 1) : pcBad5 js k = true := by simp [pcBad5, h0]
theorem pcBad5_true1 {js : List Jt} {k : Nat} (h0 : uses js ((k : Int), 1) ≠ 1) : pcBad5 js k = true := by simp [pcBad5, h0]
end Go.Proofs.YtijdigdcmjdooaaGreat

namespace Go.Proofs.YtijdigdcmjdooaaGreat
open Go.RowKit
set_option maxHeartbeats 400000

theorem ret_b {a b : Bool} (h : a = b) : Ending.returned (.bool a) = .returned (.bool b) := by rw [h]

theorem l1in_any (x a b : Int) (w : World) : Calls Tryz.prog 35 #[.int .i64 x, .int .i64 a, .int .i64 b] w fun e w' =>
    e = .returned (.bool (inR x a b)) ∧ w = w' := by
  by_cases h : a ≤ x
  all_goals
    go_enter Tryz.func35, Tryz.ntmps35
    go_wp2
    go_ret
    exact ⟨ret_b (by simp [inR]; try omega), rfl⟩

theorem l1name_any (s : ByteArray) (w : World) (hs : s.size ≤ 1048576) : Calls Tryz.prog 124 #[.string s] w fun e w' =>
    e = .returned (.bool (nm s)) ∧ w = w' := by
  go_enter Tryz.func124, Tryz.ntmps124
  go_wp2
  go_loop [3] (fun i => ∃ k : Nat, k ≤ s.size ∧ i = .int .i64 k ∧ (∀ j (hj : j < s.size), j < k → byteOk s[j] = true)) (fun i => s.size - (intOf i).toNat)
  case atStart => exact ⟨0, Nat.zero_le _, rfl, by omega⟩
  case round =>
    obtain ⟨k, hk, rfl, hall⟩ := hrel
    have HA := hide hall
    clear hall
    by_cases hlt : k < s.size
    · go_wp2
      all_goals first
        | (go_ret
           refine ⟨ret_b (nm_bad s k hlt ?_).symm, rfl⟩
           go_light
           refine byteOk_false ?_
           simp at *
           omega)
        | (refine ⟨⟨k + 1, by omega, by go_num, ?_⟩, by simp [intOf]; omega⟩
           intro j hj hjk
           by_cases e : j = k
           · subst e
             go_light
             refine byteOk_true ?_
             simp at *
             omega
           · exact HA.out j hj (by omega))
    · have hn := nm_all s (fun j hj => HA.out j hj (by omega))
      have HN := hide hn
      clear hn
      go_wp2
      all_goals go_ret
      all_goals refine ⟨ret_b ?_, rfl⟩
      all_goals rw [HN.out]
      all_goals go_light
      all_goals (rw [Bool.eq_iff_iff]; simp; omega)
end Go.Proofs.YtijdigdcmjdooaaGreat

namespace Go.Proofs.YtijdigdcmjdooaaGreat
open Go.RowKit
set_option maxHeartbeats 400000

theorem l1end_any (a a' : Option Addr) (n m cap cap' : Nat) (p s : Int) (w : World) (hn : n ≤ 1048576) :
    Calls Tryz.prog 141 #[.agg #[.slice a n cap, .slice a' m cap'], .agg #[.int .i64 p, .int .i64 s]] w fun e w' =>
    e = .returned (.bool (endOk n (p, s))) ∧ Below w.heap.size w w' := by
  cases h : inR p 0 ((n : Int) - 1)
  · have H := hide h
    clear h
    go_enter Tryz.func141, Tryz.ntmps141
    go_wp2_with fail
    refine (l1in_any _ _ _ _).mono ?_
    rintro e w1 ⟨rfl, rfl⟩
    rw [H.out]
    go_wp2_with fail
    go_ret
    exact ⟨ret_b (by simp [endOk, H.out]), ((Below.refl _ _).alloc (Nat.le_refl _) _).alloc (by simp) _⟩
  · have H := hide h
    clear h
    go_enter Tryz.func141, Tryz.ntmps141
    go_wp2_with fail
    refine (l1in_any _ _ _ _).mono ?_
    rintro e w1 ⟨rfl, rfl⟩
    rw [H.out]
    go_wp2_with fail
    refine (l1in_any _ _ _ _).mono ?_
    rintro e w1 ⟨rfl, rfl⟩
    go_wp2_with fail
    go_ret
    exact ⟨ret_b (by simp [endOk, H.out]), ((Below.refl _ _).alloc (Nat.le_refl _) _).alloc (by simp) _⟩

theorem uses_le (js : List Jt) (e : Int × Int) (h : ∀ j ∈ js, j.ends.length ≤ 1048576) : uses js e ≤ js.length * 1048576 := by
  induction js with
  | nil => simp [uses, allEnds]
  | cons j js ih =>
    have h1 := ih (fun x hx => h x (List.mem_cons_of_mem _ hx))
    have h2 := h j (List.mem_cons_self ..)
    have h3 := List.count_le_length (a := e) (l := j.ends)
    simp only [uses, allEnds, List.flatMap_cons, List.count_append, List.length_cons] at *
    omega

theorem uses_snoc (js : List Jt) (k : Nat) (hk : k < js.length) (e : Int × Int) : uses (js.take (k + 1)) e = uses (js.take k) e + js[k].ends.count e := by
  unfold uses allEnds
  rw [List.take_succ_eq_append_getElem hk, List.flatMap_append, List.count_append, List.flatMap_singleton]

theorem count_snoc (es : List (Int × Int)) (k : Nat) (hk : k < es.length) (e : Int × Int) : (es.take (k + 1)).count e = (es.take k).count e + if es[k] = e then 1 else 0 := by
  rw [List.take_succ_eq_append_getElem hk, List.count_append, List.count_singleton]
  simp

theorem l1uses_any (a a' : Option Addr) (n cap cap' : Nat) (js : List Jt) (p s : Int) (w : World) (hn : js.length ≤ 1048576) (hm : ∀ j ∈ js, j.ends.length ≤ 1048576) (hj : JtsAt w a' js) :
    Calls Tryz.prog 126 #[.agg #[.slice a n cap, .slice a' js.length cap'], .agg #[.int .i64 p, .int .i64 s]] w fun e w' =>
    e = .returned (.int .i64 (uses js (p, s))) ∧ Below w.heap.size w w' := by
  have HJ := hide hj
  have HM := hide hm
  clear hj hm
  go_enter Tryz.func126, Tryz.ntmps126
  go_wp2
  have hbW : Below w.heap.size w ((w.alloc (.cells #[.slice a n cap, .slice a' js.length cap'] 26)).alloc (.cells #[.int .i64 p, .int .i64 s] 92)) := ((Below.refl _ _).alloc (Nat.le_refl _) _).alloc (by simp) _
  go_loopw [5, 7, 9, 13] (fun q _ _ i wr => ∃ (k : Nat) (c : Nat), k ≤ js.length ∧ i = .int .i64 k ∧ q = .int .i64 c ∧ Hid (c = uses (js.take k) (p, s)) ∧ wr.cell? ⟨w.heap.size + 1, 0, none⟩ = some (.int .i64 p) ∧ wr.cell? ⟨w.heap.size + 1, 1, none⟩ = some (.int .i64 s) ∧ w.heap.size + 2 ≤ wr.heap.size ∧ Below w.heap.size w wr) (fun _ _ _ i _ => js.length - (intOf i).toNat)
  case atStart => exact ⟨0, 0, Nat.zero_le _, rfl, rfl, rfl, by simp [go_sem], by simp [go_sem], by simp, hbW⟩
  case round =>
    obtain ⟨k, c, hk, rfl, rfl, hc, e0, e1, hz, hb⟩ := hrel
    by_cases hlt : k < js.length
    · obtain ⟨b, off, ea, ec, rfl, c0, c1, c2, ce⟩ := (JtsAt.later HJ.out hb) k hlt
      have CE := hide ce
      have hm := HM.out _ (List.getElem_mem hlt)
      have hcb : c ≤ k * 1048576 := by
        rw [hc.out]
        have := uses_le (js.take k) (p, s) (fun j hj => HM.out j (List.mem_of_mem_take hj))
        rw [List.length_take_of_le hk] at this
        exact this
      clear ce
      go_wp2
      have hbA : Below wr.heap.size wr (wr.alloc (Obj.cells #[Value.int IntKind.i64 js[k].kind, Value.string js[k].name, Value.slice ea js[k].ends.length ec] 97)) := (Below.refl _ _).alloc (Nat.le_refl _) _
      go_loopw [5, 20] (fun q i wi => ∃ (t : Nat) (c' : Nat), t ≤ js[k].ends.length ∧ i = .int .i64 t ∧ q = .int .i64 c' ∧ Hid (c' = c + (js[k].ends.take t).count (p, s)) ∧ Below wr.heap.size wr wi) (fun _ i _ => js[k].ends.length - (intOf i).toNat)
      case atStart => exact ⟨0, c, Nat.zero_le _, rfl, rfl, by simp [Hid], hbA⟩
      case round =>
        obtain ⟨t, c', ht, rfl, rfl, hc', hbi⟩ := hrel
        have hcb' : c' ≤ k * 1048576 + 1048576 := by
          rw [hc'.out]
          have := List.count_le_length (a := (p, s)) (l := js[k].ends.take t)
          rw [List.length_take_of_le ht] at this
          omega
        have e0' := cell_keep hbi (by omega) e0
        have e1' := cell_keep hbi (by omega) e1
        by_cases hti : t < js[k].ends.length
        · obtain ⟨b2, off2, rfl, d0, d1⟩ := (EndsAt.later CE.out hbi) t hti
          have hzi : w.heap.size + 1 < wr.heap.size := Nat.lt_of_lt_of_le (Nat.lt_of_lt_of_le (by omega) hz) hbi.size
          have hcs := hide (count_snoc js[k].ends t hti (p, s))
          go_wp2
          · refine ⟨⟨t + 1, c' + 1, by omega, by go_num, by go_num, ?_, hbi.alloc hbi.size _⟩, by simp [intOf]; omega⟩
            show c' + 1 = _
            rw [hcs.out, if_pos (Prod.ext ‹_› ‹_›), hc'.out]; omega
          · refine ⟨⟨t + 1, c', by omega, by go_num, rfl, ?_, hbi.alloc hbi.size _⟩, by simp [intOf]; omega⟩
            show c' = _
            rw [hcs.out, if_neg (fun h => ‹¬ _› (congrArg Prod.snd h)), hc'.out]; omega
          · refine ⟨⟨t + 1, c', by omega, by go_num, rfl, ?_, hbi.alloc hbi.size _⟩, by simp [intOf]; omega⟩
            show c' = _
            rw [hcs.out, if_neg (fun h => ‹¬ _› (congrArg Prod.fst h)), hc'.out]; omega
        · go_wp2
          go_roundw
          case rel =>
            refine ⟨k + 1, c', by omega, by go_num, rfl, ?_, e0', e1', Nat.le_trans hz hbi.size, hb.trans (hbi.mono hb.size)⟩
            rw [uses_snoc js k hlt, hc'.out, hc.out, List.take_of_length_le (l := js[k].ends) (by omega)]
            rfl
          case measure => simp [intOf]; omega
    · go_wp2
      go_ret
      refine ⟨?_, hb⟩
      rw [hc.out, List.take_of_length_le (by omega)]
      rfl
end Go.Proofs.YtijdigdcmjdooaaGreat

namespace Go.Proofs.YtijdigdcmjdooaaGreat
open Go.RowKit
set_option maxHeartbeats 1000000

theorem l1joint_any (a a' : Option Addr) (n cap cap' : Nat) (js : List Jt) (k : Nat) (hk : k < js.length) (w : World) (hn : n ≤ 1048576) (hl : js.length ≤ 1048576) (hm : ∀ j ∈ js, j.name.size ≤ 1048576 ∧ j.ends.length ≤ 1048576) (hj : JtsAt w a' js) :
    Calls Tryz.prog 125 #[.agg #[.slice a n cap, .slice a' js.length cap'], .int .i64 k] w fun e w' =>
    e = .returned (.int .i64 (jcode n js k)) ∧ Below w.heap.size w w' := by
  obtain ⟨b, off, ea, ec, rfl, c0, c1, c2, ce⟩ := hj k hk
  have hblt := cell_lt c0
  have hmk := hm _ (List.getElem_mem hk)
  have HJ := hide hj
  have HM := hide hm
  have CE := hide ce
  have H3 := hide (jtBad3_eq (n := n) hk)
  have H4 := hide (jtBad4_eq hk)
  clear hj hm ce
  cases h1 : inR js[k].kind 1 4
  · have HK := hide h1
    clear h1
    go_enter Tryz.func125, Tryz.ntmps125
    go_wp2_with fail
    refine (l1in_any _ _ _ _).mono ?_
    rintro e w1 ⟨rfl, rfl⟩
    rw [HK.out]
    go_wp2_with fail
    go_ret
    refine ⟨ret_i ?_, ((Below.refl _ _).alloc (Nat.le_refl _) _).alloc (by simp) _⟩
    simp [jcode, H3.out, HK.out]
  have HK := hide h1
  have hkr : 1 ≤ js[k].kind ∧ js[k].kind ≤ 4 := by simpa [inR] using h1
  clear h1
  cases h2 : ((js[k].ends.length : Int) != js[k].kind)
  case true =>
    have H2 := hide h2
    go_enter Tryz.func125, Tryz.ntmps125
    go_wp2_with fail
    refine (l1in_any _ _ _ _).mono ?_
    rintro e w1 ⟨rfl, rfl⟩
    rw [HK.out]
    go_wp2_with fail
    go_ret
    refine ⟨ret_i ?_, ((Below.refl _ _).alloc (Nat.le_refl _) _).alloc (by simp) _⟩
    simp only [jcode, H3.out, H2.out]
    simp
  case false =>
    have H2 := hide h2
    go_enter Tryz.func125, Tryz.ntmps125
    go_wp2_with fail
    refine (l1in_any _ _ _ _).mono ?_
    rintro e w1 ⟨rfl, rfl⟩
    rw [HK.out]
    go_wp2_with fail
    have hbW : Below w.heap.size w ((w.alloc (.cells #[.slice a n cap, .slice (some ⟨b, off, none⟩) js.length cap'] 26)).alloc (.cells #[.int .i64 js[k].kind, .string js[k].name, .slice ea js[k].ends.length ec] 97)) := ((Below.refl _ _).alloc (Nat.le_refl _) _).alloc (by simp) _
    go_loopw [29] (fun i wr => ∃ (t : Nat), t ≤ js[k].ends.length ∧ i = .int .i64 t ∧ (∀ u (_ : u < t) (hu : u < js[k].ends.length), endOk n js[k].ends[u] = true) ∧ wr.cell? ⟨w.heap.size, 0, none⟩ = some (.slice a n cap) ∧ wr.cell? ⟨w.heap.size, 1, none⟩ = some (.slice (some ⟨b, off, none⟩) js.length cap') ∧ wr.cell? ⟨w.heap.size + 1, 0, none⟩ = some (.int .i64 js[k].kind) ∧ wr.cell? ⟨w.heap.size + 1, 1, none⟩ = some (.string js[k].name) ∧ wr.cell? ⟨w.heap.size + 1, 2, none⟩ = some (.slice ea js[k].ends.length ec) ∧ Below w.heap.size w wr) (fun i _ => js[k].ends.length - (intOf i).toNat)
    case atStart => exact ⟨0, Nat.zero_le _, rfl, by intro u hu; omega, by simp [go_sem], by simp [go_sem], by simp [go_sem], by simp [go_sem], by simp [go_sem], hbW⟩
    case round =>
      obtain ⟨t, ht, rfl, hall, n0, n1, j0, j1, j2, hb⟩ := hrel
      have HA := hide hall
      clear hall
      have hz0 := cell_lt n0
      have hz1 := cell_lt j0
      by_cases hti : t < js[k].ends.length
      · obtain ⟨b2, off2, rfl, d0, d1⟩ := (EndsAt.later CE.out hb) t hti
        go_wp2_with fail
        refine (l1end_any _ _ _ _ _ _ _ _ _ hn).mono ?_
        rintro e w1 ⟨rfl, hb1⟩
        have hbA : Below wr.heap.size wr w1 := ((Below.refl _ _).alloc (Nat.le_refl _) _).trans (hb1.mono (by simp))
        have n0' := cell_later' hbA n0
        have n1' := cell_later' hbA n1
        have j0' := cell_later' hbA j0
        have j1' := cell_later' hbA j1
        have j2' := cell_later' hbA j2
        have hb2 := hb.trans (hbA.mono hb.size)
        cases he : endOk n (js[k].ends[t].1, js[k].ends[t].2)
        · have HE := hide he
          clear he
          go_wp2_with fail
          go_ret
          refine ⟨ret_i ?_, hb2⟩
          have hany : js[k].ends.any (fun e => !endOk n e) = true := any_true' hti (by simp; exact HE.out)
          simp only [jcode, H3.out, hany]
          simp
        · have HE := hide he
          clear he
          go_wp2_with fail
          go_roundw
          case rel =>
            refine ⟨t + 1, by omega, by go_num, ?_, n0', n1', j0', j1', j2', hb2⟩
            intro u hu hu'
            by_cases e : u = t
            · subst e; exact HE.out
            · exact HA.out u (by omega) hu'
          case measure => simp [intOf]; omega
      · have hb3 : jtBad3 n js k = false := by
          rw [H3.out, HK.out, H2.out, any_false' (l := js[k].ends) (p := fun e => !endOk n e) (fun u hu => by simp [HA.out u (by omega) hu])]; rfl
        have HB3 := hide hb3
        clear hb3
        by_cases hk3 : js[k].kind < 3
        · cases hnm : (js[k].name.toList.isEmpty)
          · have HNM := hide hnm
            have hnm' : (!js[k].name.toList.isEmpty) = true := by rw [hnm]; rfl
            clear hnm
            go_wp2_with fail
            go_ret
            refine ⟨ret_i ?_, hb⟩
            rw [jcode, HB3.out, H4.out, if_pos hk3, HNM.out]; rfl
          · have HNM := hide hnm
            have hnm' : (!js[k].name.toList.isEmpty) = false := by rw [hnm]; rfl
            clear hnm
            go_wp2_with fail
            go_ret
            refine ⟨ret_i ?_, hb⟩
            rw [jcode, HB3.out, H4.out, if_pos hk3, HNM.out]; rfl
        · go_wp2_with fail
          refine (l1name_any js[k].name _ hmk.1).mono ?_
          rintro e w1 ⟨rfl, rfl⟩
          cases hnm : nm js[k].name
          · have HNM := hide hnm
            clear hnm
            go_wp2_with fail
            go_ret
            refine ⟨ret_i ?_, hb⟩
            rw [jcode, HB3.out, H4.out, if_neg (show ¬ js[k].kind < 3 by omega), HNM.out]; rfl
          · have HNM := hide hnm
            clear hnm
            go_wp2_with fail
            go_loopw [8] (fun i wi => ∃ (t : Nat), t ≤ k ∧ i = .int .i64 t ∧ (∀ u (_ : u < t) (hu : u < js.length), (js[u].name.toList == js[k].name.toList) = false) ∧ Below wr.heap.size wr wi) (fun i _ => k - (intOf i).toNat)
            case atStart => exact ⟨0, Nat.zero_le _, rfl, by intro u hu; omega, Below.refl _ _⟩
            case round =>
              obtain ⟨t2, ht2, rfl, hall2, hb2⟩ := hrel
              have HA2 := hide hall2
              clear hall2
              by_cases hti2 : t2 < k
              · obtain ⟨b2, off2, ea2, ec2, hab, d0, d1, d2, _⟩ := (JtsAt.later HJ.out (hb.trans (hb2.mono hb.size))) t2 (by omega)
                obtain ⟨rfl, rfl⟩ : b = b2 ∧ off = off2 := by simpa using hab
                clear hab
                have m1 := cell_later' hb2 n1
                have m2 := cell_later' hb2 j1
                go_wp2_with fail
                go_quiet (fail)
                go_wp2_with fail
                · go_ret
                  have heq : (js[t2].name.toList == js[k].name.toList) = true := by assumption
                  refine ⟨ret_i ?_, below_drewN (hb.trans (hb2.mono hb.size)) _⟩
                  rw [jcode, HB3.out, H4.out, if_neg (show ¬ js[k].kind < 3 by omega), HNM.out, any_take_true (l := js) (k := k) (u := t2) hti2 (by omega) heq]; rfl
                · have heq : (js[t2].name.toList == js[k].name.toList) = false := by assumption
                  refine ⟨⟨t2 + 1, by omega, by go_num, ?_, below_drewN hb2 _⟩, by simp [intOf]; omega⟩
                  intro u hu hu'
                  by_cases e : u = t2
                  · subst e; exact heq
                  · exact HA2.out u (by omega) hu'
              · go_wp2_with fail
                go_ret
                refine ⟨ret_i ?_, hb.trans (hb2.mono hb.size)⟩
                rw [jcode, HB3.out, H4.out, if_neg (show ¬ js[k].kind < 3 by omega), HNM.out, any_take_false (l := js) (k := k) (fun u hu hu' => HA2.out u (by omega) hu')]; rfl
end Go.Proofs.YtijdigdcmjdooaaGreat

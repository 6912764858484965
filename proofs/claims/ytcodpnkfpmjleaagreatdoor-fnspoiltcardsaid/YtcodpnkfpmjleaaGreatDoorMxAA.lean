/- The plain data of a net, and how it lies in memory. Own work. -/
import Derived.WalkKit
import Derived.ProofKit
import Derived.Test.YtcodpnkfpmjleaaGreatDoorProg
import Derived.WalkLawsBesides
import Derived.WalkSpells
namespace Go.Proofs.YtcodpnkfpmjleaaGreatDoor
open Go.RowKit

theorem hide {p : Prop} (h : p) : Hid p := h

structure Pc where
  name : ByteArray
  len : Int
  speed : Int
  brake : Int

structure Jt where
  kind : Int
  name : ByteArray
  ends : List (Int × Int)

structure Nt where
  pcs : List Pc
  jts : List Jt

/-- An end whose numbers fit. -/
def Wf2 (e : Int × Int) : Prop := (Lit.int .i64 e.1).wf = true ∧ (Lit.int .i64 e.2).wf = true

abbrev vI (x : Int) : Value := .int .i64 x
def Pc.val (p : Pc) : Value := .agg #[.string p.name, .int .i64 p.len, .int .i64 p.speed, .int .i64 p.brake]

def EndsAt (w : World) (a : Option Addr) (es : List (Int × Int)) : Prop :=
  ∀ k (_ : k < es.length), ∃ b off, a = some ⟨b, off, none⟩ ∧ w.cell? ⟨b, off + k * 2, none⟩ = some (.int .i64 es[k].1) ∧ w.cell? ⟨b, off + k * 2 + 1, none⟩ = some (.int .i64 es[k].2)

def PcsAt (w : World) (a : Option Addr) (ps : List Pc) : Prop :=
  ∀ k (_ : k < ps.length), ∃ b off, a = some ⟨b, off, none⟩ ∧ w.cell? ⟨b, off + k * 4, none⟩ = some (.string ps[k].name) ∧ w.cell? ⟨b, off + k * 4 + 1, none⟩ = some (.int .i64 ps[k].len) ∧ w.cell? ⟨b, off + k * 4 + 2, none⟩ = some (.int .i64 ps[k].speed) ∧ w.cell? ⟨b, off + k * 4 + 3, none⟩ = some (.int .i64 ps[k].brake)

def JtsAt (w : World) (a : Option Addr) (js : List Jt) : Prop :=
  ∀ k (_ : k < js.length), ∃ b off e cap, a = some ⟨b, off, none⟩ ∧ w.cell? ⟨b, off + k * 3, none⟩ = some (.int .i64 js[k].kind) ∧ w.cell? ⟨b, off + k * 3 + 1, none⟩ = some (.string js[k].name) ∧ w.cell? ⟨b, off + k * 3 + 2, none⟩ = some (.slice e js[k].ends.length cap) ∧ EndsAt w e js[k].ends

theorem cell_lt {w : World} {b o : Nat} {v : Value} (h : w.cell? ⟨b, o, none⟩ = some v) : b < w.heap.size := by
  by_cases hb : b < w.heap.size
  · exact hb
  · have : w.heap[b]? = none := by simp; omega
    simp [World.cell?, this] at h

theorem cell_keep {w w' : World} {B b o : Nat} {v : Value} (hb : Below B w w') (hB : b < B) (h : w.cell? ⟨b, o, none⟩ = some v) : w'.cell? ⟨b, o, none⟩ = some v := by
  rw [hb.cell (p := ⟨b, o, none⟩) hB]; exact h

theorem cell_later' {w w' : World} {b o : Nat} {v : Value} (hb : Below w.heap.size w w') (h : w.cell? ⟨b, o, none⟩ = some v) : w'.cell? ⟨b, o, none⟩ = some v :=
  cell_keep hb (cell_lt h) h

theorem new_cell (w : World) (cs : Array Value) (T : TypeId) (i : Nat) (v : Value) (h : cs[i]? = some v) : (w.alloc (.cells cs T)).cell? ⟨w.heap.size, i, none⟩ = some v := by
  rw [World.cell?_alloc_at cs T _ i rfl, h]

theorem box_cell {w w1 : World} {cs : Array Value} {T : TypeId} (hb : Below (w.alloc (.cells cs T)).heap.size (w.alloc (.cells cs T)) w1) (i : Nat) (v : Value) (h : cs[i]? = some v) : w1.cell? ⟨w.heap.size, i, none⟩ = some v :=
  cell_keep hb (by simp) (new_cell w cs T i v h)

theorem bcell {W w1 : World} (hb : Below W.heap.size W w1) : (∀ b o, b < W.heap.size → w1.cell? ⟨b, o, none⟩ = W.cell? ⟨b, o, none⟩) ∧ (∀ b o, b < W.heap.size → w1.frozen? ⟨b, o, none⟩ = W.frozen? ⟨b, o, none⟩) :=
  ⟨fun b o h => hb.cell (p := ⟨b, o, none⟩) h, fun b o h => hb.frozen (p := ⟨b, o, none⟩) h⟩

theorem EndsAt.later {w w' : World} {a es} (h : EndsAt w a es) (hb : Below w.heap.size w w') : EndsAt w' a es := by
  intro k hk
  obtain ⟨b, off, ha, h1, h2⟩ := h k hk
  exact ⟨b, off, ha, cell_later' hb h1, cell_later' hb h2⟩

theorem PcsAt.later {w w' : World} {a ps} (h : PcsAt w a ps) (hb : Below w.heap.size w w') : PcsAt w' a ps := by
  intro k hk
  obtain ⟨b, off, ha, h1, h2, h3, h4⟩ := h k hk
  exact ⟨b, off, ha, cell_later' hb h1, cell_later' hb h2, cell_later' hb h3, cell_later' hb h4⟩

theorem JtsAt.later {w w' : World} {a js} (h : JtsAt w a js) (hb : Below w.heap.size w w') : JtsAt w' a js := by
  intro k hk
  obtain ⟨b, off, e, cap, ha, h1, h2, h3, h4⟩ := h k hk
  exact ⟨b, off, e, cap, ha, cell_later' hb h1, cell_later' hb h2, cell_later' hb h3, h4.later hb⟩
end Go.Proofs.YtcodpnkfpmjleaaGreatDoor

/- Plain functions: what NetOk, JointAt and Across come to. Own work; imports nothing of the dump. -/
namespace Go.Proofs.YtcodpnkfpmjleaaGreatDoor

def byteOk (c : UInt8) : Bool := (decide (97 ≤ (c.toNat : Int)) && decide ((c.toNat : Int) ≤ 122)) || (decide (48 ≤ (c.toNat : Int)) && decide ((c.toNat : Int) ≤ 57)) || ((c.toNat : Int) == 95)
theorem byteOk_true {c : UInt8} (h : (97 ≤ (c.toNat : Int) ∧ (c.toNat : Int) ≤ 122) ∨ (48 ≤ (c.toNat : Int) ∧ (c.toNat : Int) ≤ 57) ∨ (c.toNat : Int) = 95) : byteOk c = true := by
  simp [byteOk]; omega
theorem byteOk_false {c : UInt8} (h : ¬ ((97 ≤ (c.toNat : Int) ∧ (c.toNat : Int) ≤ 122) ∨ (48 ≤ (c.toNat : Int) ∧ (c.toNat : Int) ≤ 57) ∨ (c.toNat : Int) = 95)) : byteOk c = false := by
  simp [byteOk]; omega
def nm (s : ByteArray) : Bool := s.data.toList.all byteOk && decide (1 ≤ s.size) && decide (s.size ≤ 20)

theorem nm_all (s : ByteArray) (h : ∀ j (hj : j < s.size), byteOk s[j] = true) : nm s = (decide (1 ≤ s.size) && decide (s.size ≤ 20)) := by
  have : s.data.toList.all byteOk = true := by
    rw [List.all_eq_true]
    intro x hx
    obtain ⟨j, hj, rfl⟩ := List.getElem_of_mem hx
    exact h j (by simpa using hj)
  simp [nm, this]

theorem nm_bad (s : ByteArray) (j : Nat) (hj : j < s.size) (h : byteOk s[j] = false) : nm s = false := by
  have : s.data.toList.all byteOk = false := by
    rw [List.all_eq_false]
    refine ⟨s[j], ?_, by simp [h]⟩
    have : s[j] = s.data.toList[j]'(by simpa using hj) := by rfl
    rw [this]; exact List.getElem_mem _
  simp [nm, this]

def inR (x a b : Int) : Bool := decide (a ≤ x) && decide (x ≤ b)

/-- The first index below n at which p holds. -/
def first (p : Nat → Bool) : Nat → Option Nat
  | 0 => none
  | n + 1 => match first p n with
    | some i => some i
    | none => if p n then some n else none

theorem first_none {p : Nat → Bool} {n : Nat} (h : ∀ j, j < n → p j = false) : first p n = none := by
  induction n with
  | zero => rfl
  | succ n ih => simp [first, ih (fun j hj => h j (by omega)), h n (by omega)]

theorem first_some {p : Nat → Bool} {n i : Nat} (hi : i < n) (h : p i = true) (hj : ∀ j, j < i → p j = false) : first p n = some i := by
  induction n with
  | zero => omega
  | succ n ih =>
    by_cases e : i = n
    · subst e; simp [first, first_none hj, h]
    · simp [first, ih (by omega)]

theorem first_cases (p : Nat → Bool) (n : Nat) : (first p n = none ∧ ∀ j, j < n → p j = false) ∨ ∃ i, i < n ∧ first p n = some i ∧ p i = true ∧ ∀ j, j < i → p j = false := by
  induction n with
  | zero => exact Or.inl ⟨rfl, by omega⟩
  | succ n ih =>
    rcases ih with ⟨h1, h2⟩ | ⟨i, h1, h2, h3, h4⟩
    · by_cases h : p n = true
      · exact Or.inr ⟨n, by omega, by simp [first, h1, h], h, h2⟩
      · refine Or.inl ⟨by simp [first, h1, h], fun j hj => ?_⟩
        by_cases e : j = n
        · subst e; simpa using h
        · exact h2 j (by omega)
    · exact Or.inr ⟨i, by omega, by simp [first, h2], h3, h4⟩

/-- As a number: -1 for none. -/
def firstI (p : Nat → Bool) (n : Nat) : Int := match first p n with | some i => i | none => -1

theorem firstI_none {p : Nat → Bool} {n : Nat} (h : ∀ j, j < n → p j = false) : firstI p n = -1 := by simp [firstI, first_none h]
theorem firstI_some {p : Nat → Bool} {n i : Nat} (hi : i < n) (h : p i = true) (hj : ∀ j, j < i → p j = false) : firstI p n = i := by simp [firstI, first_some hi h hj]

def Pc.ok (p : Pc) : Bool := nm p.name && inR p.len 1 10000000 && inR p.speed 1 10000 && inR p.brake 1 1000
/-- Piece k is not as said, or has the name of one ahead of it. -/
def pcBad (ps : List Pc) (k : Nat) : Bool := match ps[k]? with
  | some p => !p.ok || (ps.take k).any (fun q => q.name.toList == p.name.toList)
  | none => false

def endOk (n : Nat) (e : Int × Int) : Bool := inR e.1 0 ((n : Int) - 1) && inR e.2 0 1
def jtBad3 (n : Nat) (js : List Jt) (k : Nat) : Bool := match js[k]? with
  | some j => !(inR j.kind 1 4) || ((j.ends.length : Int) != j.kind) || j.ends.any (fun e => !endOk n e)
  | none => false
def jtBad4 (js : List Jt) (k : Nat) : Bool := match js[k]? with
  | some j => if j.kind < 3 then !j.name.toList.isEmpty else !nm j.name || (js.take k).any (fun q => q.name.toList == j.name.toList)
  | none => false
def allEnds (js : List Jt) : List (Int × Int) := js.flatMap (·.ends)
def uses (js : List Jt) (e : Int × Int) : Nat := (allEnds js).count e
def pcBad5 (js : List Jt) (k : Nat) : Bool := (uses js ((k : Int), 0) != 1) || (uses js ((k : Int), 1) != 1)

def sizeBad (N : Nt) : Bool := decide (N.pcs.length = 0) || decide (100 < N.pcs.length) || decide (120 < N.jts.length)

def netOk (N : Nt) : Int × Int :=
  if sizeBad N then (1, 0) else
  match first (pcBad N.pcs) N.pcs.length with
  | some i => (2, i)
  | none => match first (jtBad3 N.pcs.length N.jts) N.jts.length with
    | some i => (3, i)
    | none => match first (jtBad4 N.jts) N.jts.length with
      | some i => (4, i)
      | none => match first (pcBad5 N.jts) N.pcs.length with
        | some i => (5, i)
        | none => (0, 0)

def jcode (n : Nat) (js : List Jt) (k : Nat) : Int := if jtBad3 n js k then 3 else if jtBad4 js k then 4 else 0

theorem jtBad3_eq {n : Nat} {js : List Jt} {k : Nat} (hk : k < js.length) : jtBad3 n js k = (!(inR js[k].kind 1 4) || ((js[k].ends.length : Int) != js[k].kind) || js[k].ends.any (fun e => !endOk n e)) := by
  simp [jtBad3, hk]
theorem jtBad4_eq {js : List Jt} {k : Nat} (hk : k < js.length) : jtBad4 js k = (if js[k].kind < 3 then !js[k].name.toList.isEmpty else !nm js[k].name || (js.take k).any (fun q => q.name.toList == js[k].name.toList)) := by
  simp [jtBad4, hk]
theorem pcBad_eq {ps : List Pc} {k : Nat} (hk : k < ps.length) : pcBad ps k = (!ps[k].ok || (ps.take k).any (fun q => q.name.toList == ps[k].name.toList)) := by
  simp [pcBad, hk]
theorem any_take_true {α : Type} {l : List α} {p : α → Bool} {k u : Nat} (hu : u < k) (hl : u < l.length) (h : p l[u] = true) : (l.take k).any p = true := by
  rw [List.any_eq_true]
  refine ⟨l[u], ?_, h⟩
  rw [List.mem_take_iff_getElem]
  exact ⟨u, by omega, rfl⟩
theorem any_take_false {α : Type} {l : List α} {p : α → Bool} {k : Nat} (h : ∀ u (_ : u < k) (hl : u < l.length), p l[u] = false) : (l.take k).any p = false := by
  rw [List.any_eq_false]
  intro x hx
  rw [List.mem_take_iff_getElem] at hx
  obtain ⟨u, hu, rfl⟩ := hx
  simp [h u (by omega) (by omega)]
theorem any_false' {α : Type} {l : List α} {p : α → Bool} (h : ∀ u (hl : u < l.length), p l[u] = false) : l.any p = false := by
  have := any_take_false (l := l) (p := p) (k := l.length) (fun u _ hl => h u hl)
  rwa [List.take_length] at this
theorem any_true' {α : Type} {l : List α} {p : α → Bool} {u : Nat} (hl : u < l.length) (h : p l[u] = true) : l.any p = true := by
  rw [List.any_eq_true]; exact ⟨l[u], List.getElem_mem hl, h⟩

theorem netOk_1 {N : Nt} (h : sizeBad N = true) : netOk N = (1, 0) := by simp [netOk, h]
theorem netOk_2 {N : Nt} (h : sizeBad N = false) {i : Nat} (hi : i < N.pcs.length) (hb : pcBad N.pcs i = true) (hj : ∀ j, j < i → pcBad N.pcs j = false) : netOk N = (2, (i : Int)) := by
  simp [netOk, h, first_some hi hb hj]
theorem netOk_3 {N : Nt} (h : sizeBad N = false) (h2 : ∀ j, j < N.pcs.length → pcBad N.pcs j = false) {i : Nat} (hi : i < N.jts.length) (hb : jtBad3 N.pcs.length N.jts i = true) (hj : ∀ j, j < i → jtBad3 N.pcs.length N.jts j = false) : netOk N = (3, (i : Int)) := by
  simp [netOk, h, first_none h2, first_some hi hb hj]
theorem netOk_4 {N : Nt} (h : sizeBad N = false) (h2 : ∀ j, j < N.pcs.length → pcBad N.pcs j = false) (h3 : ∀ j, j < N.jts.length → jtBad3 N.pcs.length N.jts j = false) {i : Nat} (hi : i < N.jts.length) (hb : jtBad4 N.jts i = true) (hj : ∀ j, j < i → jtBad4 N.jts j = false) : netOk N = (4, (i : Int)) := by
  simp [netOk, h, first_none h2, first_none h3, first_some hi hb hj]
theorem netOk_5 {N : Nt} (h : sizeBad N = false) (h2 : ∀ j, j < N.pcs.length → pcBad N.pcs j = false) (h3 : ∀ j, j < N.jts.length → jtBad3 N.pcs.length N.jts j = false) (h4 : ∀ j, j < N.jts.length → jtBad4 N.jts j = false) {i : Nat} (hi : i < N.pcs.length) (hb : pcBad5 N.jts i = true) (hj : ∀ j, j < i → pcBad5 N.jts j = false) : netOk N = (5, (i : Int)) := by
  simp [netOk, h, first_none h2, first_none h3, first_none h4, first_some hi hb hj]
theorem netOk_0 {N : Nt} (h : sizeBad N = false) (h2 : ∀ j, j < N.pcs.length → pcBad N.pcs j = false) (h3 : ∀ j, j < N.jts.length → jtBad3 N.pcs.length N.jts j = false) (h4 : ∀ j, j < N.jts.length → jtBad4 N.jts j = false) (h5 : ∀ j, j < N.pcs.length → pcBad5 N.jts j = false) : netOk N = (0, 0) := by
  simp [netOk, h, first_none h2, first_none h3, first_none h4, first_none h5]

theorem jcode_3 {n js k} : (jcode n js k == 3) = jtBad3 n js k := by
  unfold jcode; cases jtBad3 n js k <;> cases jtBad4 js k <;> rfl
theorem jcode_4 {n js k} (h : jtBad3 n js k = false) : (jcode n js k == 4) = jtBad4 js k := by
  unfold jcode; rw [h]; cases jtBad4 js k <;> rfl
theorem pcBad5_false {js : List Jt} {k : Nat} (h0 : uses js ((k : Int), 0) = 1) (h1 : uses js ((k : Int), 1) = 1) : pcBad5 js k = false := by simp [pcBad5, h0, h1]
theorem pcBad5_true0 {js : List Jt} {k : Nat} (h0 : uses js ((k : Int), 0) ≠ 1) : pcBad5 js k = true := by simp [pcBad5, h0]
theorem pcBad5_true1 {js : List Jt} {k : Nat} (h0 : uses js ((k : Int), 1) ≠ 1) : pcBad5 js k = true := by simp [pcBad5, h0]
end Go.Proofs.YtcodpnkfpmjleaaGreatDoor

/- A text's net: plain. Own work. -/
namespace Go.Proofs.YtcodpnkfpmjleaaGreatDoor
set_option maxHeartbeats 1000000

/-! ### Lines and words -/
abbrev Bl := List UInt8
def sb (l : Bl) : ByteArray := ⟨l.toArray⟩
def bs (s : ByteArray) : Bl := s.data.toList
theorem sb_bs (s : ByteArray) : sb (bs s) = s := by simp [sb, bs]
theorem bs_sb (l : Bl) : bs (sb l) = l := by simp [sb, bs]
theorem sb_size (l : Bl) : (sb l).size = l.length := by show l.toArray.size = l.length; simp
theorem bs_len (s : ByteArray) : (bs s).length = s.size := by show s.data.toList.length = s.data.size; simp
theorem sb_inj {a b : Bl} (h : sb a = sb b) : a = b := by rw [← bs_sb a, ← bs_sb b, h]
/-- The lines, what is read of the one that is under way ahead. -/
def linesG : Bl → Bl → List Bl
  | cur, [] => [cur]
  | cur, c :: r => if c = 10 then cur :: linesG [] r else linesG (cur ++ [c]) r
def linesL (t : Bl) : List Bl := linesG [] t
/-- The words of a line, what is read of the one that is under way ahead. -/
def putW (word : Bl) : List Bl := if word = [] then [] else [word]
def wordsG : Bl → Bl → List Bl
  | word, [] => putW word
  | word, c :: r => if c = 35 then putW word else if c = 32 ∨ c = 9 then putW word ++ wordsG [] r else wordsG (word ++ [c]) r
def wordsL (l : Bl) : List Bl := wordsG [] l
/-! ### Numbers -/
def isD (c : UInt8) : Bool := decide (48 ≤ c.toNat) && decide (c.toNat ≤ 57)
def valD (l : Bl) : Int := l.foldl (fun n c => 10 * n + ((c.toNat : Int) - 48)) 0
def numOk (l : Bl) : Bool := l.all isD && decide (1 ≤ l.length) && decide (l.length ≤ 8) && (decide (l.head? ≠ some 48) || decide (l.length = 1))
theorem valD_snoc (l : Bl) (c : UInt8) : valD (l ++ [c]) = 10 * valD l + ((c.toNat : Int) - 48) := by simp [valD, List.foldl_append]
theorem valG_bd : ∀ (l : Bl) (n : Int) (m : Nat), 0 ≤ n → n < 10 ^ m → l.all isD = true → 0 ≤ l.foldl (fun n c => 10 * n + ((c.toNat : Int) - 48)) n ∧ l.foldl (fun n c => 10 * n + ((c.toNat : Int) - 48)) n < 10 ^ (m + l.length)
  | [], n, m, h0, h1, _ => ⟨h0, h1⟩
  | c :: l, n, m, h0, h1, h => by
    rw [List.all_cons, Bool.and_eq_true] at h
    have hc := h.1
    simp only [isD, Bool.and_eq_true, decide_eq_true_eq] at hc
    have h2 : 10 * n + ((c.toNat : Int) - 48) < 10 ^ (m + 1) := by rw [Int.pow_succ]; omega
    have := valG_bd l (10 * n + ((c.toNat : Int) - 48)) (m + 1) (by omega) h2 h.2
    rw [List.foldl_cons, List.length_cons, show m + (l.length + 1) = m + 1 + l.length by omega]
    exact this
theorem valD_bd (l : Bl) (h : l.all isD = true) : 0 ≤ valD l ∧ valD l < 10 ^ l.length := by
  have := valG_bd l 0 0 (by omega) (by simp) h
  rw [Nat.zero_add] at this
  exact this
/-! ### Ends -/
def pieceIx (N : Nt) (name : ByteArray) : Option Nat := N.pcs.findIdx? (fun p => p.name.toList == name.toList)
/-- What a word says that is to be an end: its code, and the end. -/
def endW (N : Nt) (l : Bl) : Int × (Int × Int) :=
  if 3 ≤ l.length ∧ l[l.length - 2]? = some 46 ∧ (l[l.length - 1]? = some 48 ∨ l[l.length - 1]? = some 49) ∧ nm (sb (l.take (l.length - 2))) = true then
    match pieceIx N (sb (l.take (l.length - 2))) with
    | none => (3, (0, 0))
    | some p => (0, (p, if l[l.length - 1]? = some 49 then 1 else 0))
  else (1, (0, 0))
/-! ### A line -/
def pieceB : Bl := [112, 105, 101, 99, 101]
def speedB : Bl := [115, 112, 101, 101, 100]
def brakeB : Bl := [98, 114, 97, 107, 101]
def kindB (k : Nat) : Bl := if k = 1 then [101, 110, 100] else if k = 2 then [106, 111, 105, 110] else if k = 3 then [115, 119, 105, 116, 99, 104] else [99, 114, 111, 115, 115]
/-- The kind that a word names; 0: none. -/
def kindW (l : Bl) : Nat := if l = kindB 1 then 1 else if l = kindB 2 then 2 else if l = kindB 3 then 3 else if l = kindB 4 then 4 else 0
/-- A line that tells a piece: its code, the net behind it. -/
def pieceL (N : Nt) (ws : List Bl) : Int × Nt :=
  match ws with
  | [_, a, b, c, d, e, f] =>
    if c = speedB ∧ e = brakeB ∧ nm (sb a) = true ∧ numOk b = true ∧ numOk d = true ∧ numOk f = true then
      if (pieceIx N (sb a)).isSome = false ∧ inR (valD b) 1 10000000 = true ∧ inR (valD d) 1 10000 = true ∧ inR (valD f) 1 1000 = true then (0, ⟨N.pcs ++ [⟨sb a, valD b, valD d, valD f⟩], N.jts⟩)
      else (2, N)
    else (1, N)
  | _ => (1, N)
/-- Does one of the ends stand elsewhere, or earlier in the line? -/
def clashE (N : Nt) : List (Int × Int) → List (Int × Int) → Bool
  | _, [] => false
  | pre, e :: es => decide (0 < uses N.jts e) || pre.contains e || clashE N (pre ++ [e]) es
/-- A joint whose kind and name are read. -/
def jointE (N : Nt) (kind : Nat) (name : ByteArray) (ws : List Bl) : Int × Nt :=
  if ws.length ≠ kind then (1, N)
  else if (ws.map (endW N)).any (fun x => x.1 == 1) then (1, N)
  else if (ws.map (endW N)).any (fun x => x.1 == 3) then (3, N)
  else if clashE N [] (ws.map fun x => (endW N x).2) then (5, N)
  else if name.size ≠ 0 ∧ N.jts.any (fun j => j.name.toList == name.toList) = true then (4, N)
  else (0, ⟨N.pcs, N.jts ++ [⟨kind, name, ws.map fun x => (endW N x).2⟩]⟩)
def jointL (N : Nt) : List Bl → Int × Nt
  | [] => (1, N)
  | k :: ws =>
    if kindW k = 0 then (1, N)
    else if kindW k < 3 then jointE N (kindW k) (sb []) ws
    else match ws with
      | [] => (1, N)
      | a :: es => if nm (sb a) = true then jointE N (kindW k) (sb a) es else (1, N)
def lineL (N : Nt) (ws : List Bl) : Int × Nt :=
  match ws with
  | [] => (0, N)
  | a :: _ => if a = pieceB then pieceL N ws else jointL N ws
/-! ### A text -/
def wholeR (N : Nt) : Int × Int × Nt := if (netOk N).1 = 5 then (7, (netOk N).2, ⟨[], []⟩) else if (netOk N).1 ≠ 0 then (6, 0, ⟨[], []⟩) else (0, 0, N)
def readG (N : Nt) (i : Int) : List Bl → Int × Int × Nt
  | [] => wholeR N
  | l :: ls => if (lineL N (wordsL l)).1 ≠ 0 then ((lineL N (wordsL l)).1, i + 1, ⟨[], []⟩) else readG (lineL N (wordsL l)).2 (i + 1) ls
def toldP (t : ByteArray) : Int × Int × Nt := if 65536 < t.size then (6, 0, ⟨[], []⟩) else readG ⟨[], []⟩ 0 (linesL (bs t))
end Go.Proofs.YtcodpnkfpmjleaaGreatDoor

namespace Go.Proofs.YtcodpnkfpmjleaaGreatDoor
open Go.RowKit
set_option maxHeartbeats 400000

theorem Tryz.laidOut : laidOutB Tryz.prog = true := by kernel_rfl

theorem ret_i {a b : Int} (h : a = b) : Ending.returned (.int .i64 a) = .returned (.int .i64 b) := by rw [h]

end Go.Proofs.YtcodpnkfpmjleaaGreatDoor

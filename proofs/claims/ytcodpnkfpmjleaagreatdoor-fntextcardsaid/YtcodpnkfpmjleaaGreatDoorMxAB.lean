/- A text's net: plain. Own work. -/
import Derived.Test.YtcodpnkfpmjleaaGreatDoorMxAA
import Derived.Test.YtcodpnkfpmjleaaGreatDoorProg
import Derived.WalkLawsBesides
import Derived.WalkSpells
namespace Go.Proofs.YtcodpnkfpmjleaaGreatDoor
set_option maxHeartbeats 1000000

/-! ### Lines and words -/
abbrev Bl := List UInt8
def sb (l : Bl) : ByteArray := ⟨l.toArray⟩
def bs (s : ByteArray) : Bl := s.data.toList
theorem sb_bs (s : ByteArray) : sb (bs s) = s := by simp [sb, bs]
theorem bs_sb (l : Bl) : bs (sb l) = l := by simp [sb, bs]
theorem sb_size (l : Bl) : (sb l).size = l.length := by show l.toArray.size = l.length; simp
theorem bs_len (s : ByteArray) : (bs s).length = s.size := by show s.data.toList.length = s.data.size; simp
theorem sb_inj {a b : Bl} (h : sb a = sb b) : a = b := by rw [← bs_sb a, ← bs_sb b, h]
/-- The lines, what is read of the one that is under way ahead. -/
def linesG : Bl → Bl → List Bl
  | cur, [] => [cur]
  | cur, c :: r => if c = 10 then cur :: linesG [] r else linesG (cur ++ [c]) r
def linesL (t : Bl) : List Bl := linesG [] t
/-- The words of a line, what is read of the one that is under way ahead. -/
def putW (word : Bl) : List Bl := if word = [] then [] else [word]
def wordsG : Bl → Bl → List Bl
  | word, [] => putW word
  | word, c :: r => if c = 35 then putW word else if c = 32 ∨ c = 9 then putW word ++ wordsG [] r else wordsG (word ++ [c]) r
def wordsL (l : Bl) : List Bl := wordsG [] l
/-! ### Numbers -/
def isD (c : UInt8) : Bool := decide (48 ≤ c.toNat) && decide (c.toNat ≤ 57)
def valD (l : Bl) : Int := l.foldl (fun n c => 10 * n + ((c.toNat : Int) - 48)) 0
def numOk (l : Bl) : Bool := l.all isD && decide (1 ≤ l.length) && decide (l.length ≤ 8) && (decide (l.head? ≠ some 48) || decide (l.length = 1))
theorem valD_snoc (l : Bl) (c : UInt8) : valD (l ++ [c]) = 10 * valD l + ((c.toNat : Int) - 48) := by simp [valD, List.foldl_append]
theorem valG_bd : ∀ (l : Bl) (n : Int) (m : Nat), 0 ≤ n → n < 10 ^ m → l.all isD = true → 0 ≤ l.foldl (fun n c => 10 * n + ((c.toNat : Int) - 48)) n ∧ l.foldl (fun n c => 10 * n + ((c.toNat : Int) - 48)) n < 10 ^ (m + l.length)
  | [], n, m, h0, h1, _ => ⟨h0, h1⟩
  | c :: l, n, m, h0, h1, h => by
    rw [List.all_cons, Bool.and_eq_true] at h
    have hc := h.1
    simp only [isD, Bool.and_eq_true, decide_eq_true_eq] at hc
    have h2 : 10 * n + ((c.toNat : Int) - 48) < 10 ^ (m + 1) := by rw [Int.pow_succ]; omega
    have := valG_bd l (10 * n + ((c.toNat : Int) - 48)) (m + 1) (by omega) h2 h.2
    rw [List.foldl_cons, List.length_cons, show m + (l.length + 1) = m + 1 + l.length by omega]
    exact this
theorem valD_bd (l : Bl) (h : l.all isD = true) : 0 ≤ valD l ∧ valD l < 10 ^ l.length := by
  have := valG_bd l 0 0 (by omega) (by simp) h
  rw [Nat.zero_add] at this
  exact this
/-! ### Ends -/
def pieceIx (N : Nt) (name : ByteArray) : Option Nat := N.pcs.findIdx? (fun p => p.name.toList == name.toList)
/-- What a word says that is to be an end: its code, and the end. -/
def endW (N : Nt) (l : Bl) : Int × (Int × Int) :=
  if 3 ≤ l.length ∧ l[l.length - 2]? = some 46 ∧ (l[l.length - 1]? = some 48 ∨ l[l.length - 1]? = some 49) ∧ nm (sb (l.take (l.length - 2))) = true then
    match pieceIx N (sb (l.take (l.length - 2))) with
    | none => (3, (0, 0))
    | some p => (0, (p, if l[l.length - 1]? = some 49 then 1 else 0))
  else (1, (0, 0))
/-! ### A line -/
def pieceB : Bl := [112, 105, 101, 99, 101]
def speedB : Bl := [115, 112, 101, 101, 100]
def brakeB : Bl := [98, 114, 97, 107, 101]
def kindB (k : Nat) : Bl := if k = 1 then [101, 110, 100] else if k = 2 then [106, 111, 105, 110] else if k = 3 then [115, 119, 105, 116, 99, 104] else [99, 114, 111, 115, 115]
/-- The kind that a word names; 0: none. -/
def kindW (l : Bl) : Nat := if l = kindB 1 then 1 else if l = kindB 2 then 2 else if l = kindB 3 then 3 else if l = kindB 4 then 4 else 0
/-- A line that tells a piece: its code, the net behind it. -/
def pieceL (N : Nt) (ws : List Bl) : Int × Nt :=
  match ws with
  | [_, a, b, c, d, e, f] =>
    if c = speedB ∧ e = brakeB ∧ nm (sb a) = true ∧ numOk b = true ∧ numOk d = true ∧ numOk f = true then
      if (pieceIx N (sb a)).isSome = false ∧ inR (valD b) 1 10000000 = true ∧ inR (valD d) 1 10000 = true ∧ inR (valD f) 1 1000 = true then (0, ⟨N.pcs ++ [⟨sb a, valD b, valD d, valD f⟩], N.jts⟩)
      else (2, N)
    else (1, N)
  | _ => (1, N)
/-- Does one of the ends stand elsewhere, or earlier in the line? -/
def clashE (N : Nt) : List (Int × Int) → List (Int × Int) → Bool
  | _, [] => false
  | pre, e :: es => decide (0 < uses N.jts e) || pre.contains e || clashE N (pre ++ [e]) es
/-- A joint whose kind and name are read. -/
def jointE (N : Nt) (kind : Nat) (name : ByteArray) (ws : List Bl) : Int × Nt :=
  if ws.length ≠ kind then (1, N)
  else if (ws.map (endW N)).any (fun x => x.1 == 1) then (1, N)
  else if (ws.map (endW N)).any (fun x => x.1 == 3) then (3, N)
  else if clashE N [] (ws.map fun x => (endW N x).2) then (5, N)
  else if name.size ≠ 0 ∧ N.jts.any (fun j => j.name.toList == name.toList) = true then (4, N)
  else (0, ⟨N.pcs, N.jts ++ [⟨kind, name, ws.map fun x => (endW N x).2⟩]⟩)
def jointL (N : Nt) : List Bl → Int × Nt
  | [] => (1, N)
  | k :: ws =>
    if kindW k = 0 then (1, N)
    else if kindW k < 3 then jointE N (kindW k) (sb []) ws
    else match ws with
      | [] => (1, N)
      | a :: es => if nm (sb a) = true then jointE N (kindW k) (sb a) es else (1, N)
def lineL (N : Nt) (ws : List Bl) : Int × Nt :=
  match ws with
  | [] => (0, N)
  | a :: _ => if a = pieceB then pieceL N ws else jointL N ws
/-! ### A text -/
def wholeR (N : Nt) : Int × Int × Nt := if (netOk N).1 = 5 then (7, (netOk N).2, ⟨[], []⟩) else if (netOk N).1 ≠ 0 then (6, 0, ⟨[], []⟩) else (0, 0, N)
def readG (N : Nt) (i : Int) : List Bl → Int × Int × Nt
  | [] => wholeR N
  | l :: ls => if (lineL N (wordsL l)).1 ≠ 0 then ((lineL N (wordsL l)).1, i + 1, ⟨[], []⟩) else readG (lineL N (wordsL l)).2 (i + 1) ls
def toldP (t : ByteArray) : Int × Int × Nt := if 65536 < t.size then (6, 0, ⟨[], []⟩) else readG ⟨[], []⟩ 0 (linesL (bs t))
end Go.Proofs.YtcodpnkfpmjleaaGreatDoor

namespace Go.Proofs.YtcodpnkfpmjleaaGreatDoor
open Go.RowKit
set_option maxHeartbeats 400000

theorem Tryz.laidOut : laidOutB Tryz.prog = true := by kernel_rfl

theorem ret_i {a b : Int} (h : a = b) : Ending.returned (.int .i64 a) = .returned (.int .i64 b) := by rw [h]

end Go.Proofs.YtcodpnkfpmjleaaGreatDoor

/- Ways that were found, in memory, and spec.l4less. Own work. -/
import Derived.Test.YtijdigdcmjdooaaGreatMxAT
import Derived.Test.YtijdigdcmjdooaaGreatMxAU
import Derived.Test.YtijdigdcmjdooaaGreatSxS
import Derived.Test.YtijdigdcmjdooaaGreatMxAF
namespace Go.Proofs.YtijdigdcmjdooaaGreat
open Go.RowKit Go.Sort
set_option maxHeartbeats 8000000
set_option maxRecDepth 100000

/-- A way that was found: its last place, and where its steps lie. -/
structure Cf where
  y : Wy
  a : Int
  z : Option Addr
  c : Nat
instance : Inhabited Cf := ⟨⟨⟨0, []⟩, 0, none, 0⟩⟩
def lastS (y : Wy) : Int × Int := y.ss.getLast?.getD (0, 0)
def cf5 (i : Cf) : List Value := [.int .i64 (lastS i.y).1, .int .i64 i.a, .int .i64 (lastS i.y).2, .int .i64 i.y.far, .slice i.z i.y.ss.length i.c]
def cfCells (l : List Cf) : List Value := l.flatMap cf5
theorem cfCells_cons (x : Cf) (l : List Cf) : cfCells (x :: l) = .int .i64 (lastS x.y).1 :: .int .i64 x.a :: .int .i64 (lastS x.y).2 :: .int .i64 x.y.far :: .slice x.z x.y.ss.length x.c :: cfCells l := rfl
theorem cfCells_len (l : List Cf) : (cfCells l).length = l.length * 5 := by
  induction l with
  | nil => rfl
  | cons x l ih => rw [cfCells_cons]; simp only [List.length_cons, ih]; omega
theorem cfCells_app (l l' : List Cf) : cfCells (l ++ l') = cfCells l ++ cfCells l' := by simp [cfCells]
theorem cfCells_at (l : List Cf) : ∀ k (hk : k < l.length), (cfCells l)[k * 5]? = some (.int .i64 (lastS l[k].y).1) ∧ (cfCells l)[k * 5 + 1]? = some (.int .i64 l[k].a) ∧ (cfCells l)[k * 5 + 2]? = some (.int .i64 (lastS l[k].y).2) ∧ (cfCells l)[k * 5 + 3]? = some (.int .i64 l[k].y.far) ∧ (cfCells l)[k * 5 + 4]? = some (.slice l[k].z l[k].y.ss.length l[k].c) := by
  induction l with
  | nil => intro k hk; simp at hk
  | cons x l ih =>
    intro k hk
    rw [cfCells_cons]
    cases k with
    | zero => exact ⟨rfl, rfl, rfl, rfl, rfl⟩
    | succ k =>
      have h := ih k (by simpa using hk)
      have e1 : (k + 1) * 5 = k * 5 + 1 + 1 + 1 + 1 + 1 := by omega
      rw [e1]
      simp only [Nat.add_right_comm _ 5 _] at *
      exact h
theorem cfCells_set (l : List Cf) : ∀ k (x : Cf), k < l.length → cfCells (l.set k x) = (((((cfCells l).set (k * 5) (.int .i64 (lastS x.y).1)).set (k * 5 + 1) (.int .i64 x.a)).set (k * 5 + 2) (.int .i64 (lastS x.y).2)).set (k * 5 + 3) (.int .i64 x.y.far)).set (k * 5 + 4) (.slice x.z x.y.ss.length x.c) := by
  induction l with
  | nil => intro k x hk; simp at hk
  | cons a l ih =>
    intro k x hk
    cases k with
    | zero => rfl
    | succ k =>
      have e1 : (k + 1) * 5 = k * 5 + 1 + 1 + 1 + 1 + 1 := by omega
      rw [List.set_cons_succ, cfCells_cons, cfCells_cons, ih k x (by simpa using hk), e1]
      rfl
def c0 : Cf := ⟨⟨0, []⟩, 0, none, 0⟩
def cN : Cf := ⟨⟨-1, []⟩, 0, none, 0⟩
theorem cfCells_zero (n : Nat) : cfCells (List.replicate n c0) = (List.replicate n [Value.int .i64 0, .int .i64 0, .int .i64 0, .int .i64 0, .slice none 0 0]).flatten := by
  induction n with
  | zero => rfl
  | succ n ih => rw [List.replicate_succ, List.replicate_succ, cfCells_cons, ih, List.flatten_cons]; rfl

theorem lessS_at : ∀ (a b : List (Int × Int)) (k : Nat) (hk : k < a.length) (hk' : k < b.length), a.take k = b.take k → a[k] ≠ b[k] → lessS a b = if a[k].1 = b[k].1 then decide (a[k].2 < b[k].2) else decide (a[k].1 < b[k].1)
  | [], _, _, hk, _, _, _ => by simp at hk
  | _ :: _, [], _, _, hk', _, _ => by simp at hk'
  | x :: a, y :: b, 0, _, _, _, hne => by
    simp only [List.getElem_cons_zero] at hne ⊢
    unfold lessS
    by_cases h1 : x.1 = y.1
    · rw [if_pos h1, if_pos h1]
      by_cases h2 : x.2 = y.2
      · exact absurd (Prod.ext h1 h2) hne
      · rw [if_neg h2]
    · rw [if_neg h1, if_neg h1]
  | x :: a, y :: b, k + 1, hk, hk', ht, hne => by
    simp only [List.take_succ_cons, List.cons.injEq] at ht
    simp only [List.getElem_cons_succ] at hne ⊢
    have ih := lessS_at a b k (by simpa using hk) (by simpa using hk') ht.2 hne
    rw [ht.1]
    unfold lessS
    simp only [if_true]
    exact ih
def LsB (w wr : World) (af : Int) (av : Value) (bf : Int) (bv : Value) : Prop :=
  (wr.cell? ⟨w.heap.size, 3, none⟩ = some (.int .i64 af) ∧ wr.cell? ⟨w.heap.size, 4, none⟩ = some av ∧ wr.cell? ⟨w.heap.size + 1, 3, none⟩ = some (.int .i64 bf) ∧ wr.cell? ⟨w.heap.size + 1, 4, none⟩ = some bv) ∧ Below w.heap.size w wr
theorem LsB.later {w w1 w2 : World} {af bf : Int} {av bv : Value} (h : LsB w w1 af av bf bv) (hb : Below w1.heap.size w1 w2) : LsB w w2 af av bf bv :=
  ⟨⟨cell_later' hb h.1.1, cell_later' hb h.1.2.1, cell_later' hb h.1.2.2.1, cell_later' hb h.1.2.2.2⟩, h.2.trans (hb.mono h.2.size)⟩
end Go.Proofs.YtijdigdcmjdooaaGreat

namespace Go.Proofs.YtijdigdcmjdooaaGreat
open Go.RowKit
set_option maxHeartbeats 1000000

def dtext (n : Int) : ByteArray := if n = 0 then ⟨#[48]⟩ else md (n.toNat + 1) n ⟨#[]⟩

theorem md_size (f : Nat) : ∀ (n : Int) (s : ByteArray), (md f n s).size ≤ f + s.size := by
  induction f with
  | zero => intro n s; simp [md]
  | succ f ih =>
    intro n s
    rw [md]
    split
    · omega
    · have := ih (n / 10) (ByteArray.empty.push (UInt8.ofNat (48 + n % 10).toNat) ++ s)
      rw [size_dig] at this
      omega

theorem md_size10 (f : Nat) : ∀ (g : Nat) (n : Int) (s : ByteArray), n < 10 ^ g → (md f n s).size ≤ g + s.size := by
  induction f with
  | zero => intro g n s _; simp [md]
  | succ f ih =>
    intro g n s hg
    rw [md]
    split
    · omega
    · rename_i hn
      match g, hg with
      | 0, hg => simp at hg; omega
      | g + 1, hg =>
        have h2 : n / 10 < 10 ^ g := by
          rw [Int.pow_succ] at hg
          omega
        have := ih g (n / 10) (ByteArray.empty.push (UInt8.ofNat (48 + n % 10).toNat) ++ s) h2
        rw [size_dig] at this
        omega

theorem dtext_size (n : Int) (h : n ≤ 10000000) : (dtext n).size ≤ 8 := by
  unfold dtext
  split
  · decide
  · have := md_size10 (n.toNat + 1) 8 n ⟨#[]⟩ (by omega)
    have e : (ByteArray.mk #[]).size = 0 := rfl
    omega

set_option maxRecDepth 20000 in
theorem l2decimal_any (k : Int) (w : World) (h0 : 0 ≤ k) (h1 : k ≤ 10000000) :
    Calls Tryz.prog 81 #[.int .i64 k] w fun e w' =>
    e = .returned (.string (dtext k)) ∧ Below w.heap.size w w' := by
  by_cases hk : k = 0
  · subst hk
    go_enter Tryz.func81, Tryz.ntmps81
    go_wp2
    go_ret
    exact ⟨rfl, Below.refl _ _⟩
  · have hk' : (k == 0) = false := by rw [beq_eq_false_iff_ne]; exact hk
    have HM := hide (show dtext k = md (k.toNat + 1) k ⟨#[]⟩ by simp [dtext, hk])
    generalize hR : md (k.toNat + 1) k ⟨#[]⟩ = R at HM
    have HR := hide hR
    clear hR hk
    go_enter Tryz.func81, Tryz.ntmps81
    go_wp2
    go_loopw [0, 3] (fun i q wr => ∃ (n : Int) (s : ByteArray), 0 ≤ n ∧ i = .int .i64 n ∧ q = .string s ∧ n + s.size ≤ k ∧ Hid (md (n.toNat + 1) n s = R) ∧ Below w.heap.size w wr) (fun i _ _ => (intOf i).toNat)
    case atStart => exact ⟨k, ⟨#[]⟩, by omega, rfl, rfl, by simp [ByteArray.size], HR, Below.refl _ _⟩
    case round =>
      obtain ⟨n, s, hn, rfl, rfl, hs, hmd, hb⟩ := hrel
      by_cases hpos : 0 < n
      · have hcv := conv1 wr (48 + n % 10)
        go_wp2
        refine ⟨⟨n / 10, _, by omega, rfl, rfl, ?_, ?_, hb.alloc hb.size _⟩, ?_⟩
        · rw [size_dig]; omega
        · have h := hmd.out
          rw [md, if_neg (by omega)] at h
          show md _ _ _ = _
          rw [← h]
          exact md_fuel _ _ _ _ (by omega) (by omega)
        · simp [intOf]; omega
      · have h := hmd.out
        rw [md, if_pos (by omega)] at h
        have HH := hide h
        clear h
        go_wp2
        go_ret
        refine ⟨?_, hb⟩
        rw [HM.out, ← HH.out]
        rfl
end Go.Proofs.YtijdigdcmjdooaaGreat

/- What the laws draw their tracks by: plain. Own work. -/
namespace Go.Proofs.YtijdigdcmjdooaaGreat

/-- The reader of choices: how many were read, and the sequence behind the end. -/
structure Cu where
  at' : Nat
  seed : Int

def mulS (s : Int) : Int := IntKind.u64.wrap (s * 6364136223846793005)
def addS (s b : Int) : Int := IntKind.u64.wrap (IntKind.u64.wrap (mulS s + b) + 1442695040888963407)
def stepS (s : Int) : Int := IntKind.u64.wrap (mulS s + 1442695040888963407)
def lowS (s : Int) : Int := (s / 1099511627776) % 256

def nextV (code : List Int) (c : Cu) : Int := if c.at' < code.length then code[c.at']! else lowS (stepS c.seed)
def nextC (code : List Int) (c : Cu) : Cu := ⟨c.at' + 1, if c.at' < code.length then addS c.seed code[c.at']! else stepS c.seed⟩

def pickV (code : List Int) (n : Int) (c : Cu) : Int :=
  if n ≤ 1 then 0 else if n > 200 then (nextV code c * 256 + nextV code (nextC code c)) % n else nextV code c % n
def pickC (code : List Int) (n : Int) (c : Cu) : Cu :=
  if n ≤ 1 then c else if n > 200 then nextC code (nextC code c) else nextC code c
def wideV (code : List Int) (n : Int) (c : Cu) : Int := (nextV code c * 256 + nextV code (nextC code c)) % n
def wideC (code : List Int) (c : Cu) : Cu := nextC code (nextC code c)

/-- Bytes. -/
def Bys (code : List Int) : Prop := ∀ x ∈ code, 0 ≤ x ∧ x < 256
theorem lowS_bd (s : Int) : 0 ≤ lowS s ∧ lowS s < 256 := by unfold lowS; omega
theorem nextV_bd {code : List Int} (h : Bys code) (c : Cu) : 0 ≤ nextV code c ∧ nextV code c < 256 := by
  unfold nextV
  split
  · rename_i hl
    have : code[c.at']! = code[c.at'] := by simp [hl]
    rw [this]
    exact h _ (List.getElem_mem hl)
  · exact lowS_bd _
theorem pickV_bd {code : List Int} {n : Int} (hn : 0 < n) (c : Cu) : 0 ≤ pickV code n c ∧ pickV code n c < n := by
  unfold pickV
  split
  · omega
  · split
    · exact ⟨Int.emod_nonneg _ (by omega), Int.emod_lt_of_pos _ hn⟩
    · exact ⟨Int.emod_nonneg _ (by omega), Int.emod_lt_of_pos _ hn⟩
theorem wideV_bd {code : List Int} {n : Int} (hn : 0 < n) (c : Cu) : 0 ≤ wideV code n c ∧ wideV code n c < n :=
  ⟨Int.emod_nonneg _ (by omega), Int.emod_lt_of_pos _ hn⟩
theorem pickC_at (code : List Int) (n : Int) (c : Cu) : (pickC code n c).at' ≤ c.at' + 2 := by
  unfold pickC
  split
  · omega
  · split
    · show c.at' + 1 + 1 ≤ c.at' + 2; omega
    · show c.at' + 1 ≤ c.at' + 2; omega
theorem wideC_at (code : List Int) (c : Cu) : (wideC code c).at' = c.at' + 2 := rfl
end Go.Proofs.YtijdigdcmjdooaaGreat

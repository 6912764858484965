/- Ways that were found, in memory, and spec.l4less. Own work. -/
import Derived.Test.YtldafgbhjpfboaaMxAS
import Derived.Test.YtldafgbhjpfboaaMxAT
import Derived.Test.YtldafgbhjpfboaaSxS
import Derived.Test.YtldafgbhjpfboaaMxAQ
namespace Go.Proofs.Ytldafgbhjpfboaa
open Go.RowKit Go.Sort
set_option maxHeartbeats 8000000
set_option maxRecDepth 100000

/-- A way that was found: its last place, and where its steps lie. -/
structure Cf where
  y : Wy
  a : Int
  z : Option Addr
  c : Nat
instance : Inhabited Cf := ⟨⟨⟨0, []⟩, 0, none, 0⟩⟩
def lastS (y : Wy) : Int × Int := y.ss.getLast?.getD (0, 0)
def cf5 (i : Cf) : List Value := [.int .i64 (lastS i.y).1, .int .i64 i.a, .int .i64 (lastS i.y).2, .int .i64 i.y.far, .slice i.z i.y.ss.length i.c]
def cfCells (l : List Cf) : List Value := l.flatMap cf5
theorem cfCells_cons (x : Cf) (l : List Cf) : cfCells (x :: l) = .int .i64 (lastS x.y).1 :: .int .i64 x.a :: .int .i64 (lastS x.y).2 :: .int .i64 x.y.far :: .slice x.z x.y.ss.length x.c :: cfCells l := rfl
theorem cfCells_len (l : List Cf) : (cfCells l).length = l.length * 5 := by
  induction l with
  | nil => rfl
  | cons x l ih => rw [cfCells_cons]; simp only [List.length_cons, ih]; omega
theorem cfCells_app (l l' : List Cf) : cfCells (l ++ l') = cfCells l ++ cfCells l' := by simp [cfCells]
theorem cfCells_at (l : List Cf) : ∀ k (hk : k < l.length), (cfCells l)[k * 5]? = some (.int .i64 (lastS l[k].y).1) ∧ (cfCells l)[k * 5 + 1]? = some (.int .i64 l[k].a) ∧ (cfCells l)[k * 5 + 2]? = some (.int .i64 (lastS l[k].y).2) ∧ (cfCells l)[k * 5 + 3]? = some (.int .i64 l[k].y.far) ∧ (cfCells l)[k * 5 + 4]? = some (.slice l[k].z l[k].y.ss.length l[k].c) := by
  induction l with
  | nil => intro k hk; simp at hk
  | cons x l ih =>
    intro k hk
    rw [cfCells_cons]
    cases k with
    | zero => exact ⟨rfl, rfl, rfl, rfl, rfl⟩
    | succ k =>
      have h := ih k (by simpa using hk)
      have e1 : (k + 1) * 5 = k * 5 + 1 + 1 + 1 + 1 + 1 := by omega
      rw [e1]
      simp only [Nat.add_right_comm _ 5 _] at *
      exact h
theorem cfCells_set (l : List Cf) : ∀ k (x : Cf), k < l.length → cfCells (l.set k x) = (((((cfCells l).set (k * 5) (.int .i64 (lastS x.y).1)).set (k * 5 + 1) (.int .i64 x.a)).set (k * 5 + 2) (.int .i64 (lastS x.y).2)).set (k * 5 + 3) (.int .i64 x.y.far)).set (k * 5 + 4) (.slice x.z x.y.ss.length x.c) := by
  induction l with
  | nil => intro k x hk; simp at hk
  | cons a l ih =>
    intro k x hk
    cases k with
    | zero => rfl
    | succ k =>
      have e1 : (k + 1) * 5 = k * 5 + 1 + 1 + 1 + 1 + 1 := by omega
      rw [List.set_cons_succ, cfCells_cons, cfCells_cons, ih k x (by simpa using hk), e1]
      rfl
def c0 : Cf := ⟨⟨0, []⟩, 0, none, 0⟩
def cN : Cf := ⟨⟨-1, []⟩, 0, none, 0⟩
theorem cfCells_zero (n : Nat) : cfCells (List.replicate n c0) = (List.replicate n [Value.int .i64 0, .int .i64 0, .int .i64 0, .int .i64 0, .slice none 0 0]).flatten := by
  induction n with
  | zero => rfl
  | succ n ih => rw [List.replicate_succ, List.replicate_succ, cfCells_cons, ih, List.flatten_cons]; rfl

theorem lessS_at : ∀ (a b : List (Int × Int)) (k : Nat) (hk : k < a.length) (hk' : k < b.length), a.take k = b.take k → a[k] ≠ b[k] → lessS a b = if a[k].1 = b[k].1 then decide (a[k].2 < b[k].2) else decide (a[k].1 < b[k].1)
  | [], _, _, hk, _, _, _ => by simp at hk
  | _ :: _, [], _, _, hk', _, _ => by simp at hk'
  | x :: a, y :: b, 0, _, _, _, hne => by
    simp only [List.getElem_cons_zero] at hne ⊢
    unfold lessS
    by_cases h1 : x.1 = y.1
    · rw [if_pos h1, if_pos h1]
      by_cases h2 : x.2 = y.2
      · exact absurd (Prod.ext h1 h2) hne
      · rw [if_neg h2]
    · rw [if_neg h1, if_neg h1]
  | x :: a, y :: b, k + 1, hk, hk', ht, hne => by
    simp only [List.take_succ_cons, List.cons.injEq] at ht
    simp only [List.getElem_cons_succ] at hne ⊢
    have ih := lessS_at a b k (by simpa using hk) (by simpa using hk') ht.2 hne
    rw [ht.1]
    unfold lessS
    simp only [if_true]
    exact ih
def LsB (w wr : World) (af : Int) (av : Value) (bf : Int) (bv : Value) : Prop :=
  (wr.cell? ⟨w.heap.size, 3, none⟩ = some (.int .i64 af) ∧ wr.cell? ⟨w.heap.size, 4, none⟩ = some av ∧ wr.cell? ⟨w.heap.size + 1, 3, none⟩ = some (.int .i64 bf) ∧ wr.cell? ⟨w.heap.size + 1, 4, none⟩ = some bv) ∧ Below w.heap.size w wr
theorem LsB.later {w w1 w2 : World} {af bf : Int} {av bv : Value} (h : LsB w w1 af av bf bv) (hb : Below w1.heap.size w1 w2) : LsB w w2 af av bf bv :=
  ⟨⟨cell_later' hb h.1.1, cell_later' hb h.1.2.1, cell_later' hb h.1.2.2.1, cell_later' hb h.1.2.2.2⟩, h.2.trans (hb.mono h.2.size)⟩
theorem l4less_any (za zb : Option Addr) (ca cb : Nat) (a0 a1 a2 b0 b1 b2 : Int) (x y : Wy) (w : World) (hx : x.ss.length ≤ 1048576) (ha : EndsAt w za x.ss) (hb : EndsAt w zb y.ss) :
    Calls Try.prog 41 #[.agg #[.int .i64 a0, .int .i64 a1, .int .i64 a2, .int .i64 x.far, .slice za x.ss.length ca], .agg #[.int .i64 b0, .int .i64 b1, .int .i64 b2, .int .i64 y.far, .slice zb y.ss.length cb]] w fun e w' => e = .returned (.bool (lessW x y)) ∧ Below w.heap.size w w' := by
  have HX := hide ha
  have HY := hide hb
  clear ha hb
  generalize hRes : lessW x y = Res
  have HRES := hide hRes
  clear hRes
  go_enter Try.func41, Try.ntmps41
  have HB0 : Hid (LsB w ((w.alloc (.cells #[.int .i64 a0, .int .i64 a1, .int .i64 a2, .int .i64 x.far, .slice za x.ss.length ca] 62)).alloc (.cells #[.int .i64 b0, .int .i64 b1, .int .i64 b2, .int .i64 y.far, .slice zb y.ss.length cb] 62)) x.far (.slice za x.ss.length ca) y.far (.slice zb y.ss.length cb)) :=
    ⟨⟨by simp [go_sem], by simp [go_sem], by simp [go_sem], by simp [go_sem]⟩, ((Below.refl _ _).alloc (Nat.le_refl _) _).alloc (by simp) _⟩
  go_upto_region 1 with fail
  generalize ((w.alloc (.cells #[.int .i64 a0, .int .i64 a1, .int .i64 a2, .int .i64 x.far, .slice za x.ss.length ca] 62)).alloc (.cells #[.int .i64 b0, .int .i64 b1, .int .i64 b2, .int .i64 y.far, .slice zb y.ss.length cb] 62)) = w1 at *
  obtain ⟨⟨t0, t1, t2, t3⟩, hbw⟩ := HB0.out
  obtain ⟨xf, xs⟩ := x
  obtain ⟨yf, ys⟩ := y
  dsimp only at *
  by_cases hf : xf = yf
  · subst hf
    by_cases hl : xs.length = ys.length
    · have HLL := hide hl
      have q : ((xs.length : Int) != (ys.length : Int)) = false := by rw [hl]; simp
      clear hl
      go_wp2_with fail
      go_loopw [5, 6, 7, 35] (fun _ _ _ i wr => ∃ (k : Nat), k ≤ xs.length ∧ i = .int .i64 k ∧ Hid (xs.take k = ys.take k) ∧ Hid (LsB w wr xf (.slice za xs.length ca) xf (.slice zb ys.length cb))) (fun _ _ _ i _ => xs.length - (intOf i).toNat)
      case atStart => exact ⟨0, Nat.zero_le _, rfl, hide (by simp), HB0⟩
      case round =>
        obtain ⟨k, hk, rfl, HT, HLS⟩ := hrel
        clear t0 t1 t2 t3 hbw
        by_cases hlt : k < xs.length
        · obtain ⟨b1, off, rfl, e0, e1⟩ := (EndsAt.later HX.out HLS.out.2) k hlt
          have hky : k < ys.length := by have := HLL.out; omega
          obtain ⟨b2, off', rfl, d0, d1⟩ := (EndsAt.later HY.out HLS.out.2) k hky
          obtain ⟨⟨t0, t1, t2, t3⟩, hbw⟩ := HLS.out
          have hi1 : (k : Int) < (ys.length : Int) := by omega
          have hl1 := cell_lt e0
          have hl2 := cell_lt d0
          have hl3 := cell_lt t0
          have hl4 := cell_lt t2
          have HLA := hide (HLS.out.later (((Below.refl wr.heap.size wr).alloc (Nat.le_refl _) (.cells #[.int .i64 xs[k].1, .int .i64 xs[k].2] 32)).alloc (by simp) (.cells #[.int .i64 ys[k].1, .int .i64 ys[k].2] 32)))
          have HTN := hide (show xs[k] = ys[k] → xs.take (k + 1) = ys.take (k + 1) from fun h => by
            rw [List.take_succ_eq_append_getElem hlt, List.take_succ_eq_append_getElem hky, HT.out, h])
          have HAT := hide (fun hne => lessS_at xs ys k hlt hky HT.out hne)
          clear hbw
          generalize xs[k] = u at *
          generalize ys[k] = v at *
          obtain ⟨u1, u2⟩ := u
          obtain ⟨v1, v2⟩ := v
          dsimp only at *
          have HLW := hide (show lessS xs ys = Res by
            have h := HRES.out
            unfold lessW at h
            rw [if_pos rfl] at h
            rw [if_pos HLL.out] at h
            exact h)
          by_cases h1 : u1 = v1
          · subst h1
            by_cases h2 : u2 = v2
            · subst h2
              have q1 : (u1 != u1) = false := by simp
              have q2 : (u2 != u2) = false := by simp
              go_wp2_with fail
              go_roundw
              case rel => exact ⟨k + 1, by omega, by go_num, hide (HTN.out rfl), HLA⟩
              case measure => simp [intOf]; omega
            · have HR := hide (show decide (u2 < v2) = Res by
                rw [← HLW.out, HAT.out (fun e => h2 (Prod.mk.inj e).2), if_pos rfl])
              have q1 : (u1 != u1) = false := by simp
              have q2 : (u2 != v2) = true := by rw [bne_iff_ne]; exact h2
              clear h2
              go_wp2_with fail
              go_ret
              exact ⟨ret_b HR.out, HLA.out.2⟩
          · have HR := hide (show decide (u1 < v1) = Res by
              rw [← HLW.out, HAT.out (fun e => h1 (Prod.mk.inj e).1), if_neg h1])
            have q1 : (u1 != v1) = true := by rw [bne_iff_ne]; exact h1
            clear h1
            go_wp2_with fail
            go_ret
            exact ⟨ret_b HR.out, HLA.out.2⟩
        · have HR := hide (show false = Res by
            have e := HT.out
            rw [List.take_of_length_le (by omega), List.take_of_length_le (by have := HLL.out; omega)] at e
            rw [← HRES.out, e]
            exact (lessW_irr _).symm)
          go_wp2_with fail
          go_ret
          exact ⟨ret_b HR.out, HLS.out.2⟩
    · have HR := hide (show decide (xs.length < ys.length) = Res by
        rw [← HRES.out]
        unfold lessW
        rw [if_pos rfl]
        rw [if_neg hl])
      have q : ((xs.length : Int) != (ys.length : Int)) = true := by rw [bne_iff_ne]; omega
      clear hl
      go_wp2_with fail
      go_ret
      exact ⟨ret_b HR.out, hbw⟩
  · have HR := hide (show decide (xf < yf) = Res by
      rw [← HRES.out]
      unfold lessW
      rw [if_neg hf])
    have q : (xf != yf) = true := by rw [bne_iff_ne]; exact hf
    clear hf
    go_wp2_with fail
    go_ret
    exact ⟨ret_b HR.out, hbw⟩
end Go.Proofs.Ytldafgbhjpfboaa

namespace Go.Proofs.Ytldafgbhjpfboaa
open Go.RowKit
set_option maxHeartbeats 1000000

def dtext (n : Int) : ByteArray := if n = 0 then ⟨#[48]⟩ else md (n.toNat + 1) n ⟨#[]⟩

theorem md_size (f : Nat) : ∀ (n : Int) (s : ByteArray), (md f n s).size ≤ f + s.size := by
  induction f with
  | zero => intro n s; simp [md]
  | succ f ih =>
    intro n s
    rw [md]
    split
    · omega
    · have := ih (n / 10) (ByteArray.empty.push (UInt8.ofNat (48 + n % 10).toNat) ++ s)
      rw [size_dig] at this
      omega

theorem md_size10 (f : Nat) : ∀ (g : Nat) (n : Int) (s : ByteArray), n < 10 ^ g → (md f n s).size ≤ g + s.size := by
  induction f with
  | zero => intro g n s _; simp [md]
  | succ f ih =>
    intro g n s hg
    rw [md]
    split
    · omega
    · rename_i hn
      match g, hg with
      | 0, hg => simp at hg; omega
      | g + 1, hg =>
        have h2 : n / 10 < 10 ^ g := by
          rw [Int.pow_succ] at hg
          omega
        have := ih g (n / 10) (ByteArray.empty.push (UInt8.ofNat (48 + n % 10).toNat) ++ s) h2
        rw [size_dig] at this
        omega

theorem dtext_size (n : Int) (h : n ≤ 10000000) : (dtext n).size ≤ 8 := by
  unfold dtext
  split
  · decide
  · have := md_size10 (n.toNat + 1) 8 n ⟨#[]⟩ (by omega)
    have e : (ByteArray.mk #[]).size = 0 := rfl
    omega

set_option maxRecDepth 20000 in
theorem l2decimal_any (k : Int) (w : World) (h0 : 0 ≤ k) (h1 : k ≤ 10000000) :
    Calls Try.prog 43 #[.int .i64 k] w fun e w' =>
    e = .returned (.string (dtext k)) ∧ Below w.heap.size w w' := by
  by_cases hk : k = 0
  · subst hk
    go_enter Try.func43, Try.ntmps43
    go_wp2
    go_ret
    exact ⟨rfl, Below.refl _ _⟩
  · have hk' : (k == 0) = false := by rw [beq_eq_false_iff_ne]; exact hk
    have HM := hide (show dtext k = md (k.toNat + 1) k ⟨#[]⟩ by simp [dtext, hk])
    generalize hR : md (k.toNat + 1) k ⟨#[]⟩ = R at HM
    have HR := hide hR
    clear hR hk
    go_enter Try.func43, Try.ntmps43
    go_wp2
    go_loopw [0, 3] (fun i q wr => ∃ (n : Int) (s : ByteArray), 0 ≤ n ∧ i = .int .i64 n ∧ q = .string s ∧ n + s.size ≤ k ∧ Hid (md (n.toNat + 1) n s = R) ∧ Below w.heap.size w wr) (fun i _ _ => (intOf i).toNat)
    case atStart => exact ⟨k, ⟨#[]⟩, by omega, rfl, rfl, by simp [ByteArray.size], HR, Below.refl _ _⟩
    case round =>
      obtain ⟨n, s, hn, rfl, rfl, hs, hmd, hb⟩ := hrel
      by_cases hpos : 0 < n
      · have hcv := conv1 wr (48 + n % 10)
        go_wp2
        refine ⟨⟨n / 10, _, by omega, rfl, rfl, ?_, ?_, hb.alloc hb.size _⟩, ?_⟩
        · rw [size_dig]; omega
        · have h := hmd.out
          rw [md, if_neg (by omega)] at h
          show md _ _ _ = _
          rw [← h]
          exact md_fuel _ _ _ _ (by omega) (by omega)
        · simp [intOf]; omega
      · have h := hmd.out
        rw [md, if_pos (by omega)] at h
        have HH := hide h
        clear h
        go_wp2
        go_ret
        refine ⟨?_, hb⟩
        rw [HM.out, ← HH.out]
        rfl
end Go.Proofs.Ytldafgbhjpfboaa

/- What the laws draw their tracks by: plain. Own work. -/
namespace Go.Proofs.Ytldafgbhjpfboaa

/-- The reader of choices: how many were read, and the sequence behind the end. -/
structure Cu where
  at' : Nat
  seed : Int

def mulS (s : Int) : Int := IntKind.u64.wrap (s * 6364136223846793005)
def addS (s b : Int) : Int := IntKind.u64.wrap (IntKind.u64.wrap (mulS s + b) + 1442695040888963407)
def stepS (s : Int) : Int := IntKind.u64.wrap (mulS s + 1442695040888963407)
def lowS (s : Int) : Int := (s / 1099511627776) % 256

def nextV (code : List Int) (c : Cu) : Int := if c.at' < code.length then code[c.at']! else lowS (stepS c.seed)
def nextC (code : List Int) (c : Cu) : Cu := ⟨c.at' + 1, if c.at' < code.length then addS c.seed code[c.at']! else stepS c.seed⟩

def pickV (code : List Int) (n : Int) (c : Cu) : Int :=
  if n ≤ 1 then 0 else if n > 200 then (nextV code c * 256 + nextV code (nextC code c)) % n else nextV code c % n
def pickC (code : List Int) (n : Int) (c : Cu) : Cu :=
  if n ≤ 1 then c else if n > 200 then nextC code (nextC code c) else nextC code c
def wideV (code : List Int) (n : Int) (c : Cu) : Int := (nextV code c * 256 + nextV code (nextC code c)) % n
def wideC (code : List Int) (c : Cu) : Cu := nextC code (nextC code c)

/-- Bytes. -/
def Bys (code : List Int) : Prop := ∀ x ∈ code, 0 ≤ x ∧ x < 256
theorem lowS_bd (s : Int) : 0 ≤ lowS s ∧ lowS s < 256 := by unfold lowS; omega
theorem nextV_bd {code : List Int} (h : Bys code) (c : Cu) : 0 ≤ nextV code c ∧ nextV code c < 256 := by
  unfold nextV
  split
  · rename_i hl
    have : code[c.at']! = code[c.at'] := by simp [hl]
    rw [this]
    exact h _ (List.getElem_mem hl)
  · exact lowS_bd _
theorem pickV_bd {code : List Int} {n : Int} (hn : 0 < n) (c : Cu) : 0 ≤ pickV code n c ∧ pickV code n c < n := by
  unfold pickV
  split
  · omega
  · split
    · exact ⟨Int.emod_nonneg _ (by omega), Int.emod_lt_of_pos _ hn⟩
    · exact ⟨Int.emod_nonneg _ (by omega), Int.emod_lt_of_pos _ hn⟩
theorem wideV_bd {code : List Int} {n : Int} (hn : 0 < n) (c : Cu) : 0 ≤ wideV code n c ∧ wideV code n c < n :=
  ⟨Int.emod_nonneg _ (by omega), Int.emod_lt_of_pos _ hn⟩
theorem pickC_at (code : List Int) (n : Int) (c : Cu) : (pickC code n c).at' ≤ c.at' + 2 := by
  unfold pickC
  split
  · omega
  · split
    · show c.at' + 1 + 1 ≤ c.at' + 2; omega
    · show c.at' + 1 ≤ c.at' + 2; omega
theorem wideC_at (code : List Int) (c : Cu) : (wideC code c).at' = c.at' + 2 := rfl
end Go.Proofs.Ytldafgbhjpfboaa

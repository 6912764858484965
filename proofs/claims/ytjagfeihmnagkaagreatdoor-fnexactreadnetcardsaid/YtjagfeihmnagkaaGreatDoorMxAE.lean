import Derived.Test.YtjagfeihmnagkaaGreatDoorMxAB
import Derived.Deep.QuietTactic
import Derived.BigQuiet
import Derived.Laws.BitsLemmas
namespace Go.Proofs.YtjagfeihmnagkaaGreatDoor
open Go.RowKit
set_option maxHeartbeats 1000000

def dtext (n : Int) : ByteArray := if n = 0 then ⟨#[48]⟩ else md (n.toNat + 1) n ⟨#[]⟩

theorem md_size (f : Nat) : ∀ (n : Int) (s : ByteArray), (md f n s).size ≤ f + s.size := by
  induction f with
  | zero => intro n s; simp [md]
  | succ f ih =>
    intro n s
    rw [md]
    split
    · omega
    · have := ih (n / 10) (ByteArray.empty.push (UInt8.ofNat (48 + n % 10).toNat) ++ s)
      rw [size_dig] at this
      omega

theorem md_size10 (f : Nat) : ∀ (g : Nat) (n : Int) (s : ByteArray), n < 10 ^ g → (md f n s).size ≤ g + s.size := by
  induction f with
  | zero => intro g n s _; simp [md]
  | succ f ih =>
    intro g n s hg
    rw [md]
    split
    · omega
    · rename_i hn
      match g, hg with
      | 0, hg => simp at hg; omega
      | g + 1, hg =>
        have h2 : n / 10 < 10 ^ g := by
          rw [Int.pow_succ] at hg
          omega
        have := ih g (n / 10) (ByteArray.empty.push (UInt8.ofNat (48 + n % 10).toNat) ++ s) h2
        rw [size_dig] at this
        omega

theorem dtext_size (n : Int) (h : n ≤ 10000000) : (dtext n).size ≤ 8 := by
  unfold dtext
  split
  · decide
  · have := md_size10 (n.toNat + 1) 8 n ⟨#[]⟩ (by omega)
    have e : (ByteArray.mk #[]).size = 0 := rfl
    omega

end Go.Proofs.YtjagfeihmnagkaaGreatDoor

/- What the laws draw their tracks by: plain. Own work. -/
namespace Go.Proofs.YtjagfeihmnagkaaGreatDoor

/-- The reader of choices: how many were read, and the sequence behind the end. -/
structure Cu where
  at' : Nat
  seed : Int

def mulS (s : Int) : Int := IntKind.u64.wrap (s * 6364136223846793005)
def addS (s b : Int) : Int := IntKind.u64.wrap (IntKind.u64.wrap (mulS s + b) + 1442695040888963407)
def stepS (s : Int) : Int := IntKind.u64.wrap (mulS s + 1442695040888963407)
def lowS (s : Int) : Int := (s / 1099511627776) % 256

def nextV (code : List Int) (c : Cu) : Int := if c.at' < code.length then code[c.at']! else lowS (stepS c.seed)
def nextC (code : List Int) (c : Cu) : Cu := ⟨c.at' + 1, if c.at' < code.length then addS c.seed code[c.at']! else stepS c.seed⟩

def pickV (code : List Int) (n : Int) (c : Cu) : Int :=
  if n ≤ 1 then 0 else if n > 200 then (nextV code c * 256 + nextV code (nextC code c)) % n else nextV code c % n
def pickC (code : List Int) (n : Int) (c : Cu) : Cu :=
  if n ≤ 1 then c else if n > 200 then nextC code (nextC code c) else nextC code c
def wideV (code : List Int) (n : Int) (c : Cu) : Int := (nextV code c * 256 + nextV code (nextC code c)) % n
def wideC (code : List Int) (c : Cu) : Cu := nextC code (nextC code c)

/-- Bytes. -/
def Bys (code : List Int) : Prop := ∀ x ∈ code, 0 ≤ x ∧ x < 256
theorem lowS_bd (s : Int) : 0 ≤ lowS s ∧ lowS s < 256 := by unfold lowS; omega
theorem nextV_bd {code : List Int} (h : Bys code) (c : Cu) : 0 ≤ nextV code c ∧ nextV code c < 256 := by
  unfold nextV
  split
  · rename_i hl
    have : code[c.at']! = code[c.at'] := by simp [hl]
    rw [this]
    exact h _ (List.getElem_mem hl)
  · exact lowS_bd _
theorem pickV_bd {code : List Int} {n : Int} (hn : 0 < n) (c : Cu) : 0 ≤ pickV code n c ∧ pickV code n c < n := by
  unfold pickV
  split
  · omega
  · split
    · exact ⟨Int.emod_nonneg _ (by omega), Int.emod_lt_of_pos _ hn⟩
    · exact ⟨Int.emod_nonneg _ (by omega), Int.emod_lt_of_pos _ hn⟩
theorem wideV_bd {code : List Int} {n : Int} (hn : 0 < n) (c : Cu) : 0 ≤ wideV code n c ∧ wideV code n c < n :=
  ⟨Int.emod_nonneg _ (by omega), Int.emod_lt_of_pos _ hn⟩
theorem pickC_at (code : List Int) (n : Int) (c : Cu) : (pickC code n c).at' ≤ c.at' + 2 := by
  unfold pickC
  split
  · omega
  · split
    · show c.at' + 1 + 1 ≤ c.at' + 2; omega
    · show c.at' + 1 ≤ c.at' + 2; omega
theorem wideC_at (code : List Int) (c : Cu) : (wideC code c).at' = c.at' + 2 := rfl
end Go.Proofs.YtjagfeihmnagkaaGreatDoor

/- The reader of choices: next, pick, wide. Own work. -/
namespace Go.Proofs.YtjagfeihmnagkaaGreatDoor
open Go.RowKit
set_option maxHeartbeats 1000000

/-- Bytes in memory. -/
def BytesAt (w : World) (a : Option Addr) (xs : List Int) : Prop :=
  ∀ k (_ : k < xs.length), ∃ b off, a = some ⟨b, off, none⟩ ∧ w.cell? ⟨b, off + k, none⟩ = some (.int .u8 xs[k])
theorem BytesAt.later {w w' : World} {a xs} (h : BytesAt w a xs) (hb : Below w.heap.size w w') : BytesAt w' a xs := by
  intro k hk
  obtain ⟨b, off, ha, h1⟩ := h k hk
  exact ⟨b, off, ha, cell_later' hb h1⟩
/-- The bytes lie elsewhere than in block B. -/
def OffB (a : Option Addr) (n B : Nat) : Prop := ∀ b off, a = some ⟨b, off, none⟩ → n = 0 ∨ b < B
theorem BytesAt.mid {w w' : World} {a xs} {B C : Nat} (h : BytesAt w a xs) (hm : Mid B C w w') (ho : OffB a xs.length B) : BytesAt w' a xs := by
  intro k hk
  obtain ⟨b, off, ha, h1⟩ := h k hk
  exact ⟨b, off, ha, hm.cell (.inl (by have := ho b off ha; omega)) h1⟩

/-- The reader in block b. -/
structure CurAt (w : World) (b : Nat) (a : Option Addr) (n cap : Nat) (c : Cu) : Prop where
  c0 : w.cell? ⟨b, 0, none⟩ = some (.slice a n cap)
  c1 : w.cell? ⟨b, 1, none⟩ = some (.int .i64 c.at')
  c2 : w.cell? ⟨b, 2, none⟩ = some (.int .u64 c.seed)
  f1 : w.frozen? ⟨b, 1, none⟩ = false
  f2 : w.frozen? ⟨b, 2, none⟩ = false
theorem CurAt.later {w w' : World} {b : Nat} {a : Option Addr} {n cap : Nat} {c : Cu} (h : CurAt w b a n cap c) (hb : Below w.heap.size w w') : CurAt w' b a n cap c where
  c0 := cell_later' hb h.c0
  c1 := cell_later' hb h.c1
  c2 := cell_later' hb h.c2
  f1 := by rw [hb.frozen (p := ⟨b, 1, none⟩) (cell_lt h.c0)]; exact h.f1
  f2 := by rw [hb.frozen (p := ⟨b, 2, none⟩) (cell_lt h.c0)]; exact h.f2

theorem u64_bd (x : Int) : 0 ≤ IntKind.u64.wrap x ∧ IntKind.u64.wrap x < 18446744073709551616 := by
  simp only [IntKind.wrap, IntKind.bits, IntKind.signed]
  simp
  omega
theorem u64_small (n : Int) (h0 : 0 ≤ n) (h1 : n < 2 ^ 24) : IntKind.u64.wrap n = n := by
  simp only [IntKind.wrap, IntKind.bits, IntKind.signed]
  simp
  omega
theorem low_eq (x : Int) (h0 : 0 ≤ x) (h1 : x < 18446744073709551616) : wrap64 (bits BinOp.and IntKind.u64 (x / 1099511627776) 255) = lowS x := by
  have h := bits_mask .u64 24 (by decide) u64_small 8 (by decide) (x / 1099511627776) (by omega) (by omega)
  have e : ((2 : Int) ^ 8 - 1) = 255 := by decide
  rw [e] at h
  rw [h]
  unfold lowS wrap64
  omega
/-- The reader has read one more. -/
theorem cur_put {w : World} {b : Nat} {a : Option Addr} {n cap : Nat} {c : Cu} (h : CurAt w b a n cap c) (c' : Cu) (W : World) (hW : W = (w.setCell ⟨b, 1, none⟩ (.int .i64 c'.at')).setCell ⟨b, 2, none⟩ (.int .u64 c'.seed) ∨ W = (w.setCell ⟨b, 2, none⟩ (.int .u64 c'.seed)).setCell ⟨b, 1, none⟩ (.int .i64 c'.at')) : CurAt W b a n cap c' ∧ Mid b (b + 1) w W := by
  obtain ⟨c0, c1, c2, f1, f2⟩ := h
  rcases hW with rfl | rfl
  · exact ⟨⟨by simp [go_sem, c0], by simp [go_sem, c1], by simp [go_sem, c2], by simp [go_sem, f1], by simp [go_sem, f2]⟩, ((Mid.refl _ _ _).setCell (Nat.le_refl _) (by omega) _).setCell (Nat.le_refl _) (by omega) _⟩
  · exact ⟨⟨by simp [go_sem, c0], by simp [go_sem, c1], by simp [go_sem, c2], by simp [go_sem, f1], by simp [go_sem, f2]⟩, ((Mid.refl _ _ _).setCell (Nat.le_refl _) (by omega) _).setCell (Nat.le_refl _) (by omega) _⟩
theorem CurAt.drewN {w : World} {b : Nat} {a : Option Addr} {n cap : Nat} {c : Cu} (h : CurAt w b a n cap c) (q : Nat) : CurAt (w.drewN q) b a n cap c := h.later (below_drewN (Below.refl _ _) q)
theorem mid_drewN {B C : Nat} (w : World) (q : Nat) : Mid B C w (w.drewN q) := Mid.of_below (below_drewN (Below.refl _ _) q)

end Go.Proofs.YtjagfeihmnagkaaGreatDoor

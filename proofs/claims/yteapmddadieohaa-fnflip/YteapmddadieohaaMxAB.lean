import Derived.Test.YteapmddadieohaaTo
namespace Go.Proofs.Yteapmddadieohaa
open Go.RowKit
set_option maxHeartbeats 1000000

theorem conv1 (wr : World) (x : Int) : (convert 22 9 (.slice (some ⟨wr.heap.size, 0, none⟩) 1 1)).run Try.prog (wr.alloc (.cells #[.int .u8 x] 5)) = .ok (.string (ByteArray.empty.push (UInt8.ofNat x.toNat))) (wr.alloc (.cells #[.int .u8 x] 5)) := by
  rw [run_convert_bytes_string _ _ _ _ _ _ _ Try.underlying22 Try.underlying5 Try.underlying9]
  rw [run_bytesToString _ _ _ _ [x] (by simp [loadCells, go_sem])]
  rfl

def md : Nat → Int → ByteArray → ByteArray
  | 0, _, s => s
  | f + 1, n, s => if n ≤ 0 then s else md f (n / 10) (ByteArray.empty.push (UInt8.ofNat (48 + n % 10).toNat) ++ s)

theorem md_fuel (f : Nat) : ∀ (g : Nat) (n : Int) (s : ByteArray), n.toNat < f → n.toNat < g → md f n s = md g n s := by
  induction f with
  | zero => intro g n s h; omega
  | succ f ih =>
    intro g n s hf hg
    match g, hg with
    | g + 1, hg =>
      by_cases hn : n ≤ 0
      · simp [md, hn]
      · rw [md, md, if_neg hn, if_neg hn]
        exact ih g (n / 10) _ (by omega) (by omega)

theorem size_dig (c : UInt8) (s : ByteArray) : (ByteArray.empty.push c ++ s).size = 1 + s.size := by
  rw [ByteArray.size_append, ByteArray.size_push]; rfl
end Go.Proofs.Yteapmddadieohaa

namespace Go.Proofs.Yteapmddadieohaa
open Go.RowKit
set_option maxHeartbeats 1000000

def dtext (n : Int) : ByteArray := if n = 0 then ⟨#[48]⟩ else md (n.toNat + 1) n ⟨#[]⟩

theorem md_size (f : Nat) : ∀ (n : Int) (s : ByteArray), (md f n s).size ≤ f + s.size := by
  induction f with
  | zero => intro n s; simp [md]
  | succ f ih =>
    intro n s
    rw [md]
    split
    · omega
    · have := ih (n / 10) (ByteArray.empty.push (UInt8.ofNat (48 + n % 10).toNat) ++ s)
      rw [size_dig] at this
      omega

theorem md_size10 (f : Nat) : ∀ (g : Nat) (n : Int) (s : ByteArray), n < 10 ^ g → (md f n s).size ≤ g + s.size := by
  induction f with
  | zero => intro g n s _; simp [md]
  | succ f ih =>
    intro g n s hg
    rw [md]
    split
    · omega
    · rename_i hn
      match g, hg with
      | 0, hg => simp at hg; omega
      | g + 1, hg =>
        have h2 : n / 10 < 10 ^ g := by
          rw [Int.pow_succ] at hg
          omega
        have := ih g (n / 10) (ByteArray.empty.push (UInt8.ofNat (48 + n % 10).toNat) ++ s) h2
        rw [size_dig] at this
        omega

theorem dtext_size (n : Int) (h : n ≤ 10000000) : (dtext n).size ≤ 8 := by
  unfold dtext
  split
  · decide
  · have := md_size10 (n.toNat + 1) 8 n ⟨#[]⟩ (by omega)
    have e : (ByteArray.mk #[]).size = 0 := rfl
    omega

set_option maxRecDepth 20000 in
theorem l2decimal_any (k : Int) (w : World) (h0 : 0 ≤ k) (h1 : k ≤ 10000000) :
    Calls Try.prog 41 #[.int .i64 k] w fun e w' =>
    e = .returned (.string (dtext k)) ∧ Below w.heap.size w w' := by
  by_cases hk : k = 0
  · subst hk
    go_enter Try.func41, Try.ntmps41
    go_wp2
    go_ret
    exact ⟨rfl, Below.refl _ _⟩
  · have hk' : (k == 0) = false := by rw [beq_eq_false_iff_ne]; exact hk
    have HM := hide (show dtext k = md (k.toNat + 1) k ⟨#[]⟩ by simp [dtext, hk])
    generalize hR : md (k.toNat + 1) k ⟨#[]⟩ = R at HM
    have HR := hide hR
    clear hR hk
    go_enter Try.func41, Try.ntmps41
    go_wp2
    go_loopw [0, 3] (fun i q wr => ∃ (n : Int) (s : ByteArray), 0 ≤ n ∧ i = .int .i64 n ∧ q = .string s ∧ n + s.size ≤ k ∧ Hid (md (n.toNat + 1) n s = R) ∧ Below w.heap.size w wr) (fun i _ _ => (intOf i).toNat)
    case atStart => exact ⟨k, ⟨#[]⟩, by omega, rfl, rfl, by simp [ByteArray.size], HR, Below.refl _ _⟩
    case round =>
      obtain ⟨n, s, hn, rfl, rfl, hs, hmd, hb⟩ := hrel
      by_cases hpos : 0 < n
      · have hcv := conv1 wr (48 + n % 10)
        go_wp2
        refine ⟨⟨n / 10, _, by omega, rfl, rfl, ?_, ?_, hb.alloc hb.size _⟩, ?_⟩
        · rw [size_dig]; omega
        · have h := hmd.out
          rw [md, if_neg (by omega)] at h
          show md _ _ _ = _
          rw [← h]
          exact md_fuel _ _ _ _ (by omega) (by omega)
        · simp [intOf]; omega
      · have h := hmd.out
        rw [md, if_pos (by omega)] at h
        have HH := hide h
        clear h
        go_wp2
        go_ret
        refine ⟨?_, hb⟩
        rw [HM.out, ← HH.out]
        rfl
end Go.Proofs.Yteapmddadieohaa

/- What the laws draw their tracks by: plain. Own work. -/
namespace Go.Proofs.Yteapmddadieohaa

/-- The reader of choices: how many were read, and the sequence behind the end. -/
structure Cu where
  at' : Nat
  seed : Int

def mulS (s : Int) : Int := IntKind.u64.wrap (s * 6364136223846793005)
def addS (s b : Int) : Int := IntKind.u64.wrap (IntKind.u64.wrap (mulS s + b) + 1442695040888963407)
def stepS (s : Int) : Int := IntKind.u64.wrap (mulS s + 1442695040888963407)
def lowS (s : Int) : Int := (s / 1099511627776) % 256

def nextV (code : List Int) (c : Cu) : Int := if c.at' < code.length then code[c.at']! else lowS (stepS c.seed)
def nextC (code : List Int) (c : Cu) : Cu := ⟨c.at' + 1, if c.at' < code.length then addS c.seed code[c.at']! else stepS c.seed⟩

def pickV (code : List Int) (n : Int) (c : Cu) : Int :=
  if n ≤ 1 then 0 else if n > 200 then (nextV code c * 256 + nextV code (nextC code c)) % n else nextV code c % n
def pickC (code : List Int) (n : Int) (c : Cu) : Cu :=
  if n ≤ 1 then c else if n > 200 then nextC code (nextC code c) else nextC code c
def wideV (code : List Int) (n : Int) (c : Cu) : Int := (nextV code c * 256 + nextV code (nextC code c)) % n
def wideC (code : List Int) (c : Cu) : Cu := nextC code (nextC code c)

/-- Bytes. -/
def Bys (code : List Int) : Prop := ∀ x ∈ code, 0 ≤ x ∧ x < 256
theorem lowS_bd (s : Int) : 0 ≤ lowS s ∧ lowS s < 256 := by unfold lowS; omega
theorem nextV_bd {code : List Int} (h : Bys code) (c : Cu) : 0 ≤ nextV code c ∧ nextV code c < 256 := by
  unfold nextV
  split
  · rename_i hl
    have : code[c.at']! = code[c.at'] := by simp [hl]
    rw [this]
    exact h _ (List.getElem_mem hl)
  · exact lowS_bd _
theorem pickV_bd {code : List Int} {n : Int} (hn : 0 < n) (c : Cu) : 0 ≤ pickV code n c ∧ pickV code n c < n := by
  unfold pickV
  split
  · omega
  · split
    · exact ⟨Int.emod_nonneg _ (by omega), Int.emod_lt_of_pos _ hn⟩
    · exact ⟨Int.emod_nonneg _ (by omega), Int.emod_lt_of_pos _ hn⟩
theorem wideV_bd {code : List Int} {n : Int} (hn : 0 < n) (c : Cu) : 0 ≤ wideV code n c ∧ wideV code n c < n :=
  ⟨Int.emod_nonneg _ (by omega), Int.emod_lt_of_pos _ hn⟩
theorem pickC_at (code : List Int) (n : Int) (c : Cu) : (pickC code n c).at' ≤ c.at' + 2 := by
  unfold pickC
  split
  · omega
  · split
    · show c.at' + 1 + 1 ≤ c.at' + 2; omega
    · show c.at' + 1 ≤ c.at' + 2; omega
theorem wideC_at (code : List Int) (c : Cu) : (wideC code c).at' = c.at' + 2 := rfl
end Go.Proofs.Yteapmddadieohaa

namespace Go.Proofs.Yteapmddadieohaa
open Go.RowKit
set_option maxHeartbeats 1000000

/-- Of the blocks that were there only some from B to below C have turned. -/
structure Mid (B C : Nat) (w w' : World) : Prop where
  os : w'.os = w.os
  tape : w'.tape = w.tape
  output : w'.output = w.output
  size : w.heap.size ≤ w'.heap.size
  block : ∀ k, k < w.heap.size → (k < B ∨ C ≤ k) → w'.heap[k]? = w.heap[k]?

theorem Mid.refl (B C : Nat) (w : World) : Mid B C w w := ⟨rfl, rfl, rfl, Nat.le_refl _, fun _ _ _ => rfl⟩
theorem Mid.trans {B C : Nat} {a b c : World} (h : Mid B C a b) (k : Mid B C b c) : Mid B C a c :=
  ⟨k.os.trans h.os, k.tape.trans h.tape, k.output.trans h.output, Nat.le_trans h.size k.size, fun i hi hc => (k.block i (Nat.lt_of_lt_of_le hi h.size) hc).trans (h.block i hi hc)⟩
theorem Mid.wide {B C B' C' : Nat} {w w' : World} (h : Mid B C w w') (hB : B' ≤ B) (hC : C ≤ C') : Mid B' C' w w' :=
  ⟨h.os, h.tape, h.output, h.size, fun k hk hc => h.block k hk (by omega)⟩
theorem Mid.of_below {B C : Nat} {w w' : World} (h : Below w.heap.size w w') : Mid B C w w' := ⟨h.os, h.tape, h.output, h.size, fun k hk _ => h.block k hk⟩
theorem Mid.setCell {B C : Nat} {a w : World} (h : Mid B C a w) {b o : Nat} (hB : B ≤ b) (hC : b < C) (u : Value) : Mid B C a (w.setCell ⟨b, o, none⟩ u) :=
  h.trans ⟨rfl, rfl, rfl, by simp [World.setCell], fun k _ hc => Below.heap_setCell _ _ _ _ (by show k ≠ b; omega)⟩
theorem Mid.below {B C : Nat} {w w' : World} (h : Mid B C w w') (hB : B ≤ w.heap.size) : Below B w w' := ⟨h.os, h.tape, h.output, h.size, fun k hk => h.block k (by omega) (by omega)⟩
theorem Mid.cell {B C : Nat} {w w' : World} (h : Mid B C w w') {b o : Nat} {v : Value} (hb : b < B ∨ C ≤ b) (hc : w.cell? ⟨b, o, none⟩ = some v) : w'.cell? ⟨b, o, none⟩ = some v := by
  rw [World.cell?_of_block (w := w) (w' := w') (a := ⟨b, o, none⟩) (h.block b (cell_lt hc) hb)]; exact hc
theorem Mid.row {B C : Nat} {w w' : World} (h : Mid B C w w') {b n : Nat} {t : TypeId} (hb : b < B ∨ C ≤ b) (hr : Row w b t n) : Row w' b t n := by
  obtain ⟨f, hf⟩ := hr
  exact ⟨f, hf.of_block (h.block b hf.lt hb)⟩

/-- A list of ends that a call has made, or none. -/
def OwnEnds (w : World) (a : Option Addr) (n : Nat) : Prop := n = 0 ∨ ∃ b, a = some ⟨b, 0, none⟩ ∧ Row w b 59 (n * 2)
def Marked (w : World) (a : Option Addr) (n : Nat) (k : Int) : Prop := ∀ i, i < n → ∃ b, a = some ⟨b, 0, none⟩ ∧ w.cell? ⟨b, i * 2, none⟩ = some (.int .i64 (k + 2 * i)) ∧ w.cell? ⟨b, i * 2 + 1, none⟩ = some (.int .i64 (k + 2 * i + 1))

end Go.Proofs.Yteapmddadieohaa

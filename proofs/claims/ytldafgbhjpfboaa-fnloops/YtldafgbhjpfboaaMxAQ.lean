/- spec.PathLies. Own work. -/
import Derived.Test.YtldafgbhjpfboaaWsB
import Derived.Test.YtldafgbhjpfboaaMxAE
import Derived.Test.YtldafgbhjpfboaaTo
import Derived.Test.YtldafgbhjpfboaaMxAK
namespace Go.Proofs.Ytldafgbhjpfboaa
open Go.RowKit
set_option maxHeartbeats 4000000

end Go.Proofs.Ytldafgbhjpfboaa

namespace Go.Proofs.Ytldafgbhjpfboaa
open Go.RowKit
set_option maxHeartbeats 1000000

theorem conv1 (wr : World) (x : Int) : (convert 22 9 (.slice (some ⟨wr.heap.size, 0, none⟩) 1 1)).run Try.prog (wr.alloc (.cells #[.int .u8 x] 5)) = .ok (.string (ByteArray.empty.push (UInt8.ofNat x.toNat))) (wr.alloc (.cells #[.int .u8 x] 5)) := by
  rw [run_convert_bytes_string _ _ _ _ _ _ _ Try.underlying22 Try.underlying5 Try.underlying9]
  rw [run_bytesToString _ _ _ _ [x] (by simp [loadCells, go_sem])]
  rfl

def md : Nat → Int → ByteArray → ByteArray
  | 0, _, s => s
  | f + 1, n, s => if n ≤ 0 then s else md f (n / 10) (ByteArray.empty.push (UInt8.ofNat (48 + n % 10).toNat) ++ s)

theorem md_fuel (f : Nat) : ∀ (g : Nat) (n : Int) (s : ByteArray), n.toNat < f → n.toNat < g → md f n s = md g n s := by
  induction f with
  | zero => intro g n s h; omega
  | succ f ih =>
    intro g n s hf hg
    match g, hg with
    | g + 1, hg =>
      by_cases hn : n ≤ 0
      · simp [md, hn]
      · rw [md, md, if_neg hn, if_neg hn]
        exact ih g (n / 10) _ (by omega) (by omega)

theorem size_dig (c : UInt8) (s : ByteArray) : (ByteArray.empty.push c ++ s).size = 1 + s.size := by
  rw [ByteArray.size_append, ByteArray.size_push]; rfl
end Go.Proofs.Ytldafgbhjpfboaa

namespace Go.Proofs.Ytldafgbhjpfboaa
open Go.RowKit
set_option maxHeartbeats 1000000

def mtext (k : Int) : ByteArray := if k ≤ 0 then ⟨#[109, 48]⟩ else ⟨#[109]⟩ ++ md (k.toNat + 1) k ⟨#[]⟩

end Go.Proofs.Ytldafgbhjpfboaa

namespace Go.Proofs.Ytldafgbhjpfboaa
open Go.RowKit
set_option maxHeartbeats 1000000

/-- The rows of joints that a call has made, what they hold not told but for the lists of ends. -/
def JRows (w : World) (b C : Nat) (js : List Jt) : Prop :=
  Row w b 69 (js.length * 3) ∧ b < C ∧ ∀ k (_ : k < js.length), ∃ b', b < b' ∧ b' < C ∧ w.cell? ⟨b, k * 3 + 2, none⟩ = some (.slice (some ⟨b', 0, none⟩) js[k].ends.length js[k].ends.length) ∧ Row w b' 58 (js[k].ends.length * 2)

theorem JtsOwn.rows {w : World} {b : Nat} {js : List Jt} (h : JtsOwn w b js) : JRows w b w.heap.size js := by
  refine ⟨h.1, by obtain ⟨f, hf⟩ := h.1; exact hf.lt, fun k hk => ?_⟩
  obtain ⟨b', h0, _, _, h3, h4, _⟩ := h.2 k hk
  exact ⟨b', h0, by obtain ⟨f, hf⟩ := h4; exact hf.lt, h3, h4⟩

theorem JRows.later {w w' : World} {b C js} (h : JRows w b C js) (hb : Below w.heap.size w w') : JRows w' b C js := by
  refine ⟨h.1.later hb, h.2.1, fun k hk => ?_⟩
  obtain ⟨b', h0, h1, h2, h3⟩ := h.2.2 k hk
  exact ⟨b', h0, h1, cell_later' hb h2, h3.later hb⟩

theorem JRows.set {w : World} {b C js} (h : JRows w b C js) (o : Nat) (ho : ∀ k, o ≠ k * 3 + 2) (v : Value) : JRows (w.setCell ⟨b, o, none⟩ v) b C js := by
  obtain ⟨⟨f, hf⟩, hC, hk⟩ := h
  refine ⟨⟨_, hf.set o v⟩, hC, fun k hlt => ?_⟩
  obtain ⟨b', h0, h1, h2, h3⟩ := hk k hlt
  refine ⟨b', h0, h1, ?_, h3.setOther (by omega) v⟩
  rw [(hf.set o v).cell (by omega), if_neg (fun h => ho k h.symm)]
  rw [hf.cell (by omega)] at h2
  exact h2

theorem JRows.mid {w w' : World} {b C js} {b0 n0 : Nat} (h : JRows w b C js) (hm : Mid b0 (b0 + 1) w w') (hb : b < b0) (hr : Row w' b0 58 n0) (hr0 : Row w b0 58 n0) : JRows w' b C js := by
  refine ⟨hm.row (by omega) h.1, h.2.1, fun k hk => ?_⟩
  obtain ⟨b', h0, h1, h2, h3⟩ := h.2.2 k hk
  refine ⟨b', h0, h1, hm.cell (by omega) h2, ?_⟩
  by_cases e : b' = b0
  · subst e
    obtain ⟨f, c, hc, hn, _⟩ := h3
    obtain ⟨f0, c0, hc0, hn0, _⟩ := hr0
    rw [hc] at hc0
    have : c = c0 := by simpa using hc0
    subst this
    rw [← hn, hn0]; exact hr
  · exact hm.row (by omega) h3

end Go.Proofs.Ytldafgbhjpfboaa

/- asItLies; what happens at a joint. Own work. -/
import Derived.Test.YtldafgbhjpfboaaMxAX
import Derived.Test.YtldafgbhjpfboaaDrS
import Derived.Test.YtldafgbhjpfboaaMxAI
namespace Go.Proofs.Ytldafgbhjpfboaa
open Go.RowKit
set_option maxHeartbeats 4000000

end Go.Proofs.Ytldafgbhjpfboaa

/- What happens at a joint; enter. Own work. -/
namespace Go.Proofs.Ytldafgbhjpfboaa
open Go.RowKit
set_option maxHeartbeats 4000000

theorem acr_pos {n : Nat} {j : Jt} {i : Nat} (h3 : jb3 n j = false) (hk : ¬ j.kind = 1) (_hi : i < j.ends.length) : 0 < (acr j i).length := by
  obtain ⟨hk', hl⟩ := jb3_len h3
  have hkk : j.kind = 2 ∨ j.kind = 3 ∨ j.kind = 4 := by omega
  rcases hkk with h | h | h
  · have hlen : 1 - i < j.ends.length := by omega
    simp [acr, h, hlen]
  · by_cases h0 : i = 0
    · have h1 : 1 < j.ends.length := by omega
      simp [acr, h, h0, h1]
    · have h1 : 0 < j.ends.length := by omega
      simp [acr, h, h0, h1]
  · have h1 : (if i = 0 then 1 else if i = 1 then 0 else if i = 2 then 3 else 2) < j.ends.length := by split <;> (try split) <;> (try split) <;> omega
    simp [acr, h, h1]

theorem acr_tip {n : Nat} {j : Jt} (h3 : jb3 n j = false) (hk : j.kind = 3) : ∃ e f, acr j 0 = [e, f] ∧ j.ends[1]? = some e ∧ j.ends[2]? = some f := by
  obtain ⟨hk', hl⟩ := jb3_len h3
  have h1 : 1 < j.ends.length := by omega
  have h2 : 2 < j.ends.length := by omega
  exact ⟨j.ends[1], j.ends[2], by simp [acr, hk, h1, h2], by simp [h1], by simp [h2]⟩

/-- What is told of a way over a joint. -/
def PassQ (j : Jt) (h : Int × Int) (i : Nat) (x : Int) (e : Ending) (w w' : World) : Prop :=
  ∃ e1 e2 : Int, e = .returned (.tuple #[.agg #[.int .i64 e1, .int .i64 e2], .int .i64 (overP j h i x).2]) ∧ ((overP j h i x).2 = 0 → (overP j h i x).1 = (e1, e2)) ∧ Below w.heap.size w w'

end Go.Proofs.Ytldafgbhjpfboaa

/- The cursor in memory. Own work. -/
namespace Go.Proofs.Ytldafgbhjpfboaa
open Go.RowKit
set_option maxHeartbeats 2000000

/-- What lay there ahead of the drive (w), and what the cursor leans on (W): it lies in block B, its map of seats is m. -/
structure Env (w W : World) (B m n : Nat) (G : Int × Int → Option (Int × Int × Int)) : Prop where
  below : Below w.heap.size w W
  wB : w.heap.size ≤ B
  Bb : B < W.heap.size
  seat : SE W m n G
  mB : m ≠ B

section
variable {w W : World} {B m n : Nat} {G : Int × Int → Option (Int × Int × Int)} {sp sj sl : Value} {w' : World} {q a wy : Int} {ov : Nat} {u : Value} {ps : List (Int × Int × Int)}

end

/-- What lies outside of block B has stayed. -/
def Frm (B : Nat) (w w' : World) : Prop := ∀ b o v, b ≠ B → w.cell? ⟨b, o, none⟩ = some v → w'.cell? ⟨b, o, none⟩ = some v
theorem Frm.of_below {B : Nat} {w w' : World} (h : Below w.heap.size w w') : Frm B w w' := fun _ _ _ _ hc => cell_later' h hc
theorem Frm.trans {B : Nat} {w w' w2 : World} (h : Frm B w w') (k : Frm B w' w2) : Frm B w w2 := fun b o v hb hc => k b o v hb (h b o v hb hc)
theorem Frm.set (B : Nat) (w : World) (o : Nat) (u : Value) : Frm B w (w.setCell ⟨B, o, none⟩ u) := fun b i v hb hc => by
  rw [World.cell?_setCell_far w ⟨B, o, none⟩ ⟨b, i, none⟩ u (fun h => hb h.symm)]; exact hc
end Go.Proofs.Ytldafgbhjpfboaa

/- entry. Own work. -/
namespace Go.Proofs.Ytldafgbhjpfboaa
open Go.RowKit
set_option maxHeartbeats 4000000

theorem entry_any (a : Option Addr) (N : Nt) (cap k : Nat) (sd : Int) (w : World) (hk : k < N.pcs.length) (hsd : sd = 0 ∨ sd = 1) (hp : PcsAt w a N.pcs) :
    Calls Try.prog 33 #[.slice a N.pcs.length cap, .agg #[.int .i64 k, .int .i64 sd]] w fun e w' =>
    e = .returned (.agg #[.int .i64 (enterP N (k, sd)).1, .int .i64 (enterP N (k, sd)).2.1, .int .i64 (enterP N (k, sd)).2.2]) ∧ Below w.heap.size w w' := by
  obtain ⟨b, off, rfl, c0, c1, c2, c3⟩ := hp k hk
  have hblt := cell_lt c0
  have hblt1 : b < w.heap.size + 1 := by omega
  have hi : (k : Int) < (N.pcs.length : Int) := by omega
  clear hp c0 c2 c3
  rcases hsd with rfl | rfl
  · go_enter Try.func33, Try.ntmps33
    go_wp2
    exact bodyPost_ret (v := .agg #[.int .i64 k, .int .i64 0, .int .i64 1]) (by simp [results, Try.results33, go_sem]) rfl ⟨rfl, ((Below.refl _ _).alloc (Nat.le_refl _) _).alloc (by simp) _⟩
  · have H := hide (show enterP N (k, 1) = ((k : Int), N.pcs[k].len, -1) by simp [enterP, lenAt_nat N k hk])
    go_enter Try.func33, Try.ntmps33
    go_wp2_with fail
    go_region
    all_goals
      go_wp2_with fail
      refine bodyPost_ret (v := .agg #[.int .i64 k, .int .i64 N.pcs[k].len, .int .i64 (-1)]) (by simp [results, Try.results33, go_sem]) rfl ⟨by rw [H.out], ?_⟩
      exact (((Below.refl _ _).alloc (Nat.le_refl _) _).alloc (by simp) _).drew
end Go.Proofs.Ytldafgbhjpfboaa

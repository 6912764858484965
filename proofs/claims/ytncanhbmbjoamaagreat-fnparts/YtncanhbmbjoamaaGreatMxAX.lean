/- FnParts, plain: the parts of a drive. Own work. -/
import Derived.Test.YtncanhbmbjoamaaGreatDvA
import Derived.Test.YtncanhbmbjoamaaGreatPtS
import Derived.Test.YtncanhbmbjoamaaGreatMxAW
import Derived.Deep.QuietTactic
import Derived.BigQuiet
import Derived.Test.YtncanhbmbjoamaaGreatMxAI
import Derived.Test.YtncanhbmbjoamaaGreatDrA
import Derived.Test.YtncanhbmbjoamaaGreatMxAB
namespace Go.Proofs.YtncanhbmbjoamaaGreat
set_option maxHeartbeats 1000000

theorem lenSum_add (ps : List Prt) (p : Prt) : lenSum (ps ++ [p]) = lenSum ps + (p.2.2 - p.2.1) := by simp [lenSum]
/-- The last part ends at a spot. -/
def EndsHere (q a : Int) (ps : List Prt) : Prop := ∀ p, ps.getLast? = some p → p.1 = q ∧ (p.2.1 = a ∨ p.2.2 = a)
/-- What the parts of a drive are, f inches on. -/
structure PartsI (N : Nt) (f : Int) (ps : List Prt) : Prop where
  sum : lenSum ps = f
  all : ∀ p ∈ ps, p.2.1 < p.2.2 ∧ (0 ≤ p.1 ∧ p.1 < N.pcs.length) ∧ 0 ≤ p.2.1 ∧ p.2.2 ≤ lenAt N p.1
theorem partP_facts {N : Nt} {q a b wy t : Int} (hs : spotP N q a wy = true) (hb : spotP N q b wy = true) (ht : 0 < t) (e : b = a + t * wy) : (partP q a b).1 = q ∧ ((partP q a b).2.1 = b ∨ (partP q a b).2.2 = b) ∧ (partP q a b).2.2 - (partP q a b).2.1 = t ∧ (0 ≤ q ∧ q < N.pcs.length) ∧ 0 ≤ (partP q a b).2.1 ∧ (partP q a b).2.2 ≤ lenAt N q := by
  have hw := spot_way hs
  simp only [spotP, inR, Bool.and_eq_true, decide_eq_true_eq] at hs hb
  unfold partP
  rcases hw with rfl | rfl
  · rw [if_neg (by omega)]
    refine ⟨rfl, .inr rfl, ?_, ?_, ?_, ?_⟩ <;> (try dsimp only) <;> omega
  · rw [if_pos (by omega)]
    refine ⟨rfl, .inl rfl, ?_, ?_, ?_, ?_⟩ <;> (try dsimp only) <;> omega
theorem driveParts_inv {N : Nt} {xs : List Int} {far : Int} (hr : netOk N = (0, 0)) (hl : liesP N.jts xs = true) {f q a wy : Int} {ov : Nat} {ps : List (Int × Int × Int)} {r : DRes}
    (h : DriveR N xs far f q a wy ov ps r) : spotP N q a wy = true → f ≤ far → PartsI N f ps → (f < far ∨ EndsHere q a ps) → PartsI N r.far r.ps ∧ (r.code = 0 → EndsHere r.q r.at' r.ps) := by
  induction h with
  | done h => exact fun hs hf hp he => ⟨hp, fun _ => he.resolve_left h⟩
  | stop hj hx h hrm hat hc => exact fun hs hf hp he => ⟨hp, fun h0 => absurd h0 hc⟩
  | many hj hx h hrm hat hc ho => exact fun hs hf hp he => ⟨hp, fun h0 => by simp at h0⟩
  | over hj hx h hrm hat hc ho n ih => exact fun hs hf hp he => ih (enterP_ok hr (overP_ok hr hl hj hx hat hc)) hf hp (.inl h)
  | @go f q a wy ov ps r h hrm n ih =>
    intro hs hf hp he
    have hpos := step_pos h hs hrm
    have hle := step_le (N := N) (far := far) (f := f) (q := q) (a := a) (wy := wy)
    have hs2 := spot_go hs (by omega) hle.1
    obtain ⟨p1, p2, p3, p4, p5, p6⟩ := partP_facts hs hs2 (show 0 < stepP N far f q a wy by omega) rfl
    refine ih hs2 (by omega) ⟨?_, ?_⟩ (.inr ?_)
    · rw [lenSum_add, hp.sum]; omega
    · intro p hpm
      rcases List.mem_append.1 hpm with hpm | hpm
      · exact hp.all p hpm
      · have e : p = partP q a (a + stepP N far f q a wy * wy) := by simpa using hpm
        rw [e, p1]
        exact ⟨by omega, p4, p5, p6⟩
    · intro p hpl
      rw [List.getLast?_concat] at hpl
      have e : partP q a (a + stepP N far f q a wy * wy) = p := by simpa using hpl
      rw [← e]
      exact ⟨p1, p2⟩
/-- From the start. -/
theorem driveParts_start {N : Nt} {xs : List Int} {far q a wy : Int} {r : DRes} (hr : netOk N = (0, 0)) (hl : liesP N.jts xs = true) (hs : spotP N q a wy = true) (hf : 0 ≤ far) (h : DriveR N xs far 0 q a wy 0 [] r) : PartsI N r.far r.ps ∧ (r.code = 0 → EndsHere r.q r.at' r.ps) :=
  driveParts_inv hr hl h hs hf ⟨rfl, fun p hp => by simp at hp⟩ (.inr fun p hp => by simp at hp)
/-- A drive goes over a thousand joints at most: it has few parts. -/
theorem driveParts_few {N : Nt} {xs : List Int} {far : Int} (hr : netOk N = (0, 0)) (hl : liesP N.jts xs = true) {f q a wy : Int} {ov : Nat} {ps : List (Int × Int × Int)} {r : DRes}
    (h : DriveR N xs far f q a wy ov ps r) : spotP N q a wy = true → ov ≤ 1000 → (ps.length ≤ ov ∨ (¬ f < far ∨ roomP N q a wy = 0) ∧ ps.length ≤ ov + 1) → r.ps.length ≤ 1001 := by
  induction h with
  | done h => intro hs ho hp; dsimp only; omega
  | stop hj hx h hrm hat hc => intro hs ho hp; dsimp only; omega
  | many hj hx h hrm hat hc ho => intro hs ho hp; dsimp only; omega
  | over hj hx h hrm hat hc ho n ih => exact fun hs ho' hp => ih (enterP_ok hr (overP_ok hr hl hj hx hat hc)) (by omega) (.inl (by omega))
  | @go f q a wy ov ps r h hrm n ih =>
    intro hs ho hp
    have hpos := step_pos h hs hrm
    have hle := step_le (N := N) (far := far) (f := f) (q := q) (a := a) (wy := wy)
    have hs2 := spot_go hs (by omega) hle.1
    have hlen : ps.length ≤ ov := by
      rcases hp with hp | ⟨hp | hp, _⟩
      · exact hp
      · exact absurd h hp
      · exact absurd hp hrm
    refine ih hs2 ho (.inr ⟨?_, by simp; omega⟩)
    rw [room_on (spot_way hs)]
    unfold stepP at hle ⊢
    split
    · left; omega
    · right; omega
theorem driveParts_prefix {N : Nt} {xs : List Int} {far : Int} {f q a wy : Int} {ov : Nat} {ps : List (Int × Int × Int)} {r : DRes}
    (h : DriveR N xs far f q a wy ov ps r) : ∃ t, r.ps = ps ++ t := by
  induction h with
  | done h => exact ⟨[], by simp⟩
  | stop hj hx h hrm hat hc => exact ⟨[], by simp⟩
  | many hj hx h hrm hat hc ho => exact ⟨[], by simp⟩
  | over hj hx h hrm hat hc ho n ih => exact ih
  | go h hrm n ih =>
    obtain ⟨t, ht⟩ := ih
    exact ⟨_ :: t, by rw [ht, List.append_assoc]; rfl⟩
/-- From within a piece: the first part begins where the drive begins. -/
theorem driveParts_first {N : Nt} {xs : List Int} {far q a wy : Int} {r : DRes} (_hs : spotP N q a wy = true) (h0 : 0 < a) (h1 : a < lenAt N q) (h : DriveR N xs far 0 q a wy 0 [] r) : ∀ p, r.ps[0]? = some p → p.1 = q ∧ p.2.1 ≤ a ∧ a ≤ p.2.2 := by
  intro p hp
  have hrm : ¬ roomP N q a wy = 0 := by
    unfold roomP
    split <;> omega
  cases h with
  | done h => simp at hp
  | stop _ _ _ h2 => exact absurd h2 hrm
  | many _ _ _ h2 => exact absurd h2 hrm
  | over _ _ _ h2 => exact absurd h2 hrm
  | go h2 _ n =>
    obtain ⟨t, ht⟩ := driveParts_prefix n
    rw [ht] at hp
    simp only [List.nil_append, List.cons_append, List.getElem?_cons_zero, Option.some.injEq] at hp
    subst hp
    unfold partP
    split
    · exact ⟨rfl, by dsimp only; omega, by dsimp only; omega⟩
    · exact ⟨rfl, by dsimp only; omega, by dsimp only; omega⟩
theorem parts_ok {N : Nt} (_hr : netOk N = (0, 0)) {f : Int} {ps : List Prt} (h : PartsI N f ps) (hn : ps.length ≤ 1001) (hb : N.pcs.length ≤ 100) (hB : ∀ q, lenAt N q ≤ 10000000) : partsOkP ps = true := by
  simp only [partsOkP, Bool.and_eq_true, List.all_eq_true, decide_eq_true_eq]
  refine ⟨fun p hp => ?_, by omega⟩
  have h1 := h.all p hp
  have h2 := hB p.1
  simp only [partOk, inR, Bool.and_eq_true, decide_eq_true_eq]
  omega
theorem meets_swap (x y : Prt) : meets x y = meets y x := by
  unfold meets
  rw [Bool.eq_iff_iff]
  simp only [Bool.and_eq_true, beq_iff_eq, decide_eq_true_eq]
  constructor <;> rintro ⟨⟨h1, h2⟩, h3⟩ <;> exact ⟨⟨h1.symm, h3⟩, h2⟩
theorem touchP_swap (a b : List Prt) : touchP a b = touchP b a := by
  unfold touchP
  rw [Bool.and_comm (partsOkP a), Bool.eq_iff_iff]
  simp only [Bool.and_eq_true, List.any_eq_true]
  constructor <;> rintro ⟨h1, x, hx, y, hy, h2⟩ <;> exact ⟨h1, y, hy, x, hx, by rw [meets_swap]; exact h2⟩
end Go.Proofs.YtncanhbmbjoamaaGreat

/- laws.wParts at equal lists. Own work. -/
namespace Go.Proofs.YtncanhbmbjoamaaGreat
open Go.RowKit
set_option maxHeartbeats 2000000

theorem wParts_same (a a' : Option Addr) (es : List (Int × Int × Int)) (cap cap' : Nat) (w : World) (hn : es.length ≤ 1048576) (hp : PartsAt w a es) (hp' : PartsAt w a' es) :
    Calls Tryz.prog 13 #[.slice a es.length cap, .slice a' es.length cap'] w fun e w' => e = .returned (.bool true) ∧ Below w.heap.size w w' := by
  have HP := hide hp
  have HP' := hide hp'
  clear hp hp'
  go_enter Tryz.func13, Tryz.ntmps13
  go_wp2
  go_loopw [5, 13] (fun _ i wr => ∃ (k : Nat), k ≤ es.length ∧ i = .int .i64 k ∧ Below w.heap.size w wr) (fun _ i _ => es.length - (intOf i).toNat)
  case atStart => exact ⟨0, Nat.zero_le _, rfl, Below.refl _ _⟩
  case round =>
    obtain ⟨k, hk, rfl, hb⟩ := hrel
    by_cases hlt : k < es.length
    · obtain ⟨b, off, rfl, c0, c1, c2⟩ := (PartsAt.later HP.out hb) k hlt
      obtain ⟨b', off', rfl, d0, d1, d2⟩ := (PartsAt.later HP'.out hb) k hlt
      have hi1 : (k : Int) < (es.length : Int) := by omega
      go_wp2_with fail
      go_quiet (fail)
      go_wp2_with fail
      exact ⟨⟨k + 1, by omega, by go_num, below_drewN hb _⟩, by simp [intOf]; omega⟩
    · go_wp2_with fail
      go_ret
      exact ⟨rfl, hb⟩
end Go.Proofs.YtncanhbmbjoamaaGreat

/- Marks of lists of numbers and of parts. Own work. -/
namespace Go.Proofs.YtncanhbmbjoamaaGreat
open Go.RowKit
set_option maxHeartbeats 2000000

/-- The marks of parts. -/
def MarkedP (w : World) (b n : Nat) (k : Int) : Prop := ∀ i, i < n → w.cell? ⟨b, i * 3, none⟩ = some (.int .i64 (k + 3 * i)) ∧ w.cell? ⟨b, i * 3 + 1, none⟩ = some (.int .i64 (k + 3 * i + 1)) ∧ w.cell? ⟨b, i * 3 + 2, none⟩ = some (.int .i64 (k + 3 * i + 2))

/-- What is owned as a row of parts is a list of parts in memory. -/
theorem partCells_at (ps : List (Int × Int × Int)) : ∀ k (hk : k < ps.length), (partCells ps)[k * 3]? = some (.int .i64 ps[k].1) ∧ (partCells ps)[k * 3 + 1]? = some (.int .i64 ps[k].2.1) ∧ (partCells ps)[k * 3 + 2]? = some (.int .i64 ps[k].2.2) := by
  induction ps with
  | nil => intro k hk; simp at hk
  | cons p ps ih =>
    intro k hk
    have e : partCells (p :: ps) = .int .i64 p.1 :: .int .i64 p.2.1 :: .int .i64 p.2.2 :: partCells ps := rfl
    rw [e]
    cases k with
    | zero => exact ⟨rfl, rfl, rfl⟩
    | succ k =>
      have := ih k (by simpa using hk)
      have e3 : (k + 1) * 3 = k * 3 + 1 + 1 + 1 := by omega
      rw [e3]
      simpa using this

theorem partCells_length (ps : List (Int × Int × Int)) : (partCells ps).length = ps.length * 3 := by
  induction ps with
  | nil => rfl
  | cons p ps ih =>
    have e : partCells (p :: ps) = .int .i64 p.1 :: .int .i64 p.2.1 :: .int .i64 p.2.2 :: partCells ps := rfl
    rw [e]
    simp only [List.length_cons, ih]
    omega

theorem parts_of_owns {w : World} {base : Nat} {e : TypeId} {v : Value} {ps : List (Int × Int × Int)} (h : w.ownsRow base e 3 v ps.length (partCells ps)) :
    (v = .slice none 0 0 ∧ ps = []) ∨ ∃ b cap, v = .slice (some ⟨b, 0, none⟩) ps.length cap ∧ base ≤ b ∧ ps.length ≤ cap ∧ PartsAt w (some ⟨b, 0, none⟩) ps ∧ Row w b e (cap * 3) := by
  rcases h.2 with ⟨hv, h0⟩ | ⟨g, cap, cur, hv, hb, hg, hn, _, hsz, htk⟩
  · exact .inl ⟨hv, List.eq_nil_of_length_eq_zero h0⟩
  · refine .inr ⟨g, cap, hv, hb, hn, ?_, ?_⟩
    · have hcell : ∀ j, j < ps.length * 3 → w.cell? ⟨g, j, none⟩ = (partCells ps)[j]? := by
        intro j hj
        rw [hv] at h
        exact h.cellAt j hj
      intro k hk
      obtain ⟨p0, p1, p2⟩ := partCells_at ps k hk
      refine ⟨g, 0, rfl, ?_, ?_, ?_⟩
      · rw [Nat.zero_add, hcell _ (by omega), p0]
      · rw [Nat.zero_add, hcell _ (by omega), p1]
      · rw [Nat.zero_add, hcell _ (by omega), p2]
    · exact ⟨fun i => cur[i]!, cur, hg, hsz, fun i hi => by simp [hsz, hi]⟩

end Go.Proofs.YtncanhbmbjoamaaGreat

namespace Go.Proofs.YtncanhbmbjoamaaGreat
open Go.RowKit
set_option maxHeartbeats 1000000

def mtext (k : Int) : ByteArray := if k ≤ 0 then ⟨#[109, 48]⟩ else ⟨#[109]⟩ ++ md (k.toNat + 1) k ⟨#[]⟩

end Go.Proofs.YtncanhbmbjoamaaGreat

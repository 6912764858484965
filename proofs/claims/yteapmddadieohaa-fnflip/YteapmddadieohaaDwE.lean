/- Drawn tracks: the order of the ends, the joints: plain, and rows of ends. Own work. -/
import Derived.Test.YteapmddadieohaaDwC
namespace Go.Proofs.Yteapmddadieohaa
open Go.RowKit
set_option maxHeartbeats 1000000

/-! ### Plain -/
def swapAt (es : List (Int × Int)) (i k : Nat) : List (Int × Int) := (es.set i es[k]!).set k es[i]!
theorem swapAt_len (es : List (Int × Int)) (i k : Nat) : (swapAt es i k).length = es.length := by simp [swapAt]
def shufI (code : List Int) (i : Nat) (c : Cu) : Int := (i : Int) - pickV code ((i : Int) + 1) c / (1 + pickV code 3 (pickC code ((i : Int) + 1) c))
def shufC (code : List Int) (i : Nat) (c : Cu) : Cu := pickC code 3 (pickC code ((i : Int) + 1) c)
theorem shufI_bd (code : List Int) (i : Nat) (c : Cu) : 0 ≤ shufI code i c ∧ shufI code i c ≤ i := by
  unfold shufI
  have h1 := pickV_bd (code := code) (n := (i : Int) + 1) (by omega) c
  have h2 := pickV_bd (code := code) (n := 3) (by omega) (pickC code ((i : Int) + 1) c)
  have h3 : 0 ≤ pickV code ((i : Int) + 1) c / (1 + pickV code 3 (pickC code ((i : Int) + 1) c)) := Int.ediv_nonneg h1.1 (by omega)
  have h4 : pickV code ((i : Int) + 1) c / (1 + pickV code 3 (pickC code ((i : Int) + 1) c)) ≤ pickV code ((i : Int) + 1) c := Int.ediv_le_self _ h1.1
  omega
theorem shufC_at (code : List Int) (i : Nat) (c : Cu) : (shufC code i c).at' ≤ c.at' + 4 := by
  unfold shufC
  have := pickC_at code ((i : Int) + 1) c
  have := pickC_at code 3 (pickC code ((i : Int) + 1) c)
  omega
def shuf (code : List Int) : Nat → List (Int × Int) → Cu → List (Int × Int) × Cu
  | 0, es, c => (es, c)
  | i + 1, es, c => shuf code i (swapAt es (i + 1) (shufI code (i + 1) c).toNat) (shufC code (i + 1) c)
theorem shuf_len (code : List Int) : ∀ (i : Nat) (es : List (Int × Int)) (c : Cu), (shuf code i es c).1.length = es.length
  | 0, es, c => rfl
  | i + 1, es, c => by
    rw [shuf, shuf_len code i, swapAt_len]

def kindT (x : Int) : Int := if x = 0 then 1 else if x < 3 then 2 else if x < 6 then 3 else 4
theorem kindT_bd (x : Int) : 1 ≤ kindT x ∧ kindT x ≤ 4 := by
  unfold kindT
  repeat' split
  all_goals omega
def jtKind (code : List Int) (es : List (Int × Int)) (c : Cu) : Int := if kindT (pickV code 7 c) > (es.length : Int) then 1 else kindT (pickV code 7 c)
def jtDraw (code : List Int) (n : Nat) (es : List (Int × Int)) (c : Cu) : Jt := ⟨jtKind code es c, if 3 ≤ jtKind code es c then nameP (100 + (n : Int)) else ⟨#[]⟩, es.take (jtKind code es c).toNat⟩
theorem jtKind_bd (code : List Int) (es : List (Int × Int)) (c : Cu) (h : 0 < es.length) : 1 ≤ jtKind code es c ∧ jtKind code es c ≤ 4 ∧ jtKind code es c ≤ es.length := by
  unfold jtKind kindT
  have := pickV_bd (code := code) (n := 7) (by omega) c
  repeat' split
  all_goals omega
def jrun (code : List Int) : Nat → List Jt → List (Int × Int) → Cu → List Jt
  | 0, js, _, _ => js
  | f + 1, js, es, c => if es.length = 0 then js else jrun code f (js ++ [jtDraw code js.length es c]) (es.drop (jtKind code es c).toNat) (pickC code 7 c)
theorem jrun_fuel (code : List Int) : ∀ (f g : Nat) (js : List Jt) (es : List (Int × Int)) (c : Cu), es.length ≤ f → es.length ≤ g → jrun code f js es c = jrun code g js es c
  | 0, 0, js, es, c, _, _ => rfl
  | 0, g + 1, js, es, c, hf, _ => by
    have : es.length = 0 := by omega
    simp [jrun, this]
  | f + 1, 0, js, es, c, _, hg => by
    have : es.length = 0 := by omega
    simp [jrun, this]
  | f + 1, g + 1, js, es, c, hf, hg => by
    rw [jrun, jrun]
    split
    · rfl
    · rename_i h0
      have := jtKind_bd code es c (by omega)
      exact jrun_fuel code f g _ _ _ (by simp; omega) (by simp; omega)

/-- The track that is drawn. -/
def netP (code : List Int) (c : Cu) : Nt :=
  let small := pickV code 4 c
  let c1 := pickC code 4 c
  let K := (1 + pickV code 9 c1).toNat
  let P := pcsTo code small (pickC code 9 c1) K
  let E := shuf code (2 * K - 1) (endsTo K) P.2
  ⟨P.1, jrun code (2 * K) [] E.1 E.2⟩

/-! ### Rows of ends -/
theorem endCells_len (es : List (Int × Int)) : (endCells es).length = es.length * 2 := by
  induction es with
  | nil => rfl
  | cons e es ih =>
    show (.int .i64 e.1 :: .int .i64 e.2 :: endCells es).length = _
    simp [ih]; omega
theorem endCells_at (ps : List (Int × Int)) : ∀ k (hk : k < ps.length), (endCells ps)[k * 2]? = some (.int .i64 ps[k].1) ∧ (endCells ps)[k * 2 + 1]? = some (.int .i64 ps[k].2) := by
  induction ps with
  | nil => intro k hk; simp at hk
  | cons p ps ih =>
    intro k hk
    have e : endCells (p :: ps) = .int .i64 p.1 :: .int .i64 p.2 :: endCells ps := rfl
    rw [e]
    cases k with
    | zero => exact ⟨rfl, rfl⟩
    | succ k =>
      have := ih k (by simpa using hk)
      have e3 : (k + 1) * 2 = k * 2 + 1 + 1 := by omega
      rw [e3]
      simpa using this
theorem endCells_set (ps : List (Int × Int)) : ∀ k (_ : k < ps.length) (x y : Int), ((endCells ps).set (k * 2) (.int .i64 x)).set (k * 2 + 1) (.int .i64 y) = endCells (ps.set k (x, y)) := by
  induction ps with
  | nil => intro k hk; simp at hk
  | cons p ps ih =>
    intro k hk x y
    have e : ∀ (p : Int × Int) (ps : List (Int × Int)), endCells (p :: ps) = .int .i64 p.1 :: .int .i64 p.2 :: endCells ps := fun _ _ => rfl
    cases k with
    | zero => rw [e]; simp [e]
    | succ k =>
      have := ih k (by simpa using hk) x y
      have e3 : (k + 1) * 2 = k * 2 + 1 + 1 := by omega
      rw [e3, e, List.set_cons_succ, List.set_cons_succ, List.set_cons_succ, List.set_cons_succ, this]
      rfl
theorem ends_get {w : World} {base g cap : Nat} {T : TypeId} {n : Nat} {es : List (Int × Int)} (h : w.ownsRow base T 2 (.slice (some ⟨g, 0, none⟩) n cap) n (endCells es)) (hl : es.length = n) {k : Nat} (hk : k < es.length) :
    w.cell? ⟨g, k * 2, none⟩ = some (.int .i64 es[k].1) ∧ w.cell? ⟨g, k * 2 + 1, none⟩ = some (.int .i64 es[k].2) ∧ w.frozen? ⟨g, k * 2, none⟩ = false ∧ w.frozen? ⟨g, k * 2 + 1, none⟩ = false := by
  obtain ⟨h1, h2⟩ := endCells_at es k hk
  exact ⟨by rw [h.cellAt _ (by omega), h1], by rw [h.cellAt _ (by omega), h2], h.frozenAt _, h.frozenAt _⟩
theorem ends_put {w : World} {base g cap : Nat} {T : TypeId} {n : Nat} {es : List (Int × Int)} (h : w.ownsRow base T 2 (.slice (some ⟨g, 0, none⟩) n cap) n (endCells es)) {k : Nat} (hk : k < es.length) (x y : Int) :
    ((w.setCell ⟨g, k * 2, none⟩ (.int .i64 x)).setCell ⟨g, k * 2 + 1, none⟩ (.int .i64 y)).ownsRow base T 2 (.slice (some ⟨g, 0, none⟩) n cap) n (endCells (es.set k (x, y))) := by
  rw [← endCells_set es k hk x y]
  exact ((h.stored _ _).1.stored _ _).1
theorem ends_at_of {w : World} {base g cap : Nat} {T : TypeId} {n : Nat} {es : List (Int × Int)} (h : w.ownsRow base T 2 (.slice (some ⟨g, 0, none⟩) n cap) n (endCells es)) (hl : es.length = n) : EndsAt w (some ⟨g, 0, none⟩) es := by
  intro k hk
  obtain ⟨h1, h2, _⟩ := ends_get h hl hk
  exact ⟨g, 0, rfl, by rw [Nat.zero_add]; exact h1, by rw [Nat.zero_add]; exact h2⟩
end Go.Proofs.Yteapmddadieohaa

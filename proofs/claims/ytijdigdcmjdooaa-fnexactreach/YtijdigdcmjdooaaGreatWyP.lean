/- Ways, which of two is less, and what is best: plain. Own work. -/
import Derived.Test.YtijdigdcmjdooaaGreatMxAF
namespace Go.Proofs.YtijdigdcmjdooaaGreat

/-- A way: how far, by which steps. -/
structure Wy where
  far : Int
  ss : List (Int × Int)

/-- Where steps are less, by piece, then by way, where they first part. -/
def lessS : List (Int × Int) → List (Int × Int) → Bool
  | x :: xs, y :: ys => if x.1 = y.1 then (if x.2 = y.2 then lessS xs ys else decide (x.2 < y.2)) else decide (x.1 < y.1)
  | _, _ => false
def lessW (a b : Wy) : Bool := if a.far = b.far then (if a.ss.length = b.ss.length then lessS a.ss b.ss else decide (a.ss.length < b.ss.length)) else decide (a.far < b.far)

theorem lessS_irr (a : List (Int × Int)) : lessS a a = false := by
  induction a with
  | nil => rfl
  | cons x a ih => simp [lessS, ih]
theorem lessS_tri : ∀ (a b : List (Int × Int)), a.length = b.length → lessS a b = false → lessS b a = false → a = b
  | [], [], _, _, _ => rfl
  | [], _ :: _, h, _, _ => by simp at h
  | _ :: _, [], h, _, _ => by simp at h
  | x :: a, y :: b, h, h1, h2 => by
    unfold lessS at h1 h2
    by_cases e1 : x.1 = y.1
    · rw [if_pos e1] at h1
      rw [if_pos e1.symm] at h2
      by_cases e2 : x.2 = y.2
      · rw [if_pos e2] at h1
        rw [if_pos e2.symm] at h2
        rw [lessS_tri a b (by simpa using h) h1 h2, Prod.ext e1 e2]
      · rw [if_neg e2] at h1
        rw [if_neg (fun h => e2 h.symm)] at h2
        simp only [decide_eq_false_iff_not] at h1 h2
        omega
    · rw [if_neg e1] at h1
      rw [if_neg (fun h => e1 h.symm)] at h2
      simp only [decide_eq_false_iff_not] at h1 h2
      omega
theorem lessS_trans : ∀ (a b c : List (Int × Int)), lessS a b = true → lessS b c = true → lessS a c = true
  | [], _, _, h, _ => by simp [lessS] at h
  | _ :: _, [], _, h, _ => by simp [lessS] at h
  | _ :: _, _ :: _, [], _, h => by simp [lessS] at h
  | x :: a, y :: b, z :: c, h1, h2 => by
    unfold lessS at h1 h2 ⊢
    by_cases e1 : x.1 = y.1
    · rw [if_pos e1] at h1
      by_cases e2 : y.1 = z.1
      · rw [if_pos e2] at h2
        rw [if_pos (e1.trans e2)]
        by_cases f1 : x.2 = y.2
        · rw [if_pos f1] at h1
          by_cases f2 : y.2 = z.2
          · rw [if_pos f2] at h2
            rw [if_pos (f1.trans f2)]
            exact lessS_trans a b c h1 h2
          · rw [if_neg f2] at h2
            rw [if_neg (fun h => f2 (by omega))]
            simp only [decide_eq_true_eq] at h2 ⊢
            omega
        · rw [if_neg f1] at h1
          simp only [decide_eq_true_eq] at h1
          by_cases f2 : y.2 = z.2
          · rw [if_neg (by omega)]
            simp only [decide_eq_true_eq]
            omega
          · rw [if_neg f2] at h2
            simp only [decide_eq_true_eq] at h2
            rw [if_neg (by omega)]
            simp only [decide_eq_true_eq]
            omega
      · rw [if_neg e2] at h2
        rw [if_neg (by omega)]
        simp only [decide_eq_true_eq] at h2 ⊢
        omega
    · rw [if_neg e1] at h1
      simp only [decide_eq_true_eq] at h1
      by_cases e2 : y.1 = z.1
      · rw [if_neg (by omega)]
        simp only [decide_eq_true_eq]
        omega
      · rw [if_neg e2] at h2
        simp only [decide_eq_true_eq] at h2
        rw [if_neg (by omega)]
        simp only [decide_eq_true_eq]
        omega
theorem lessS_snoc : ∀ (a b : List (Int × Int)) (z : Int × Int), a.length = b.length → lessS (a ++ [z]) (b ++ [z]) = lessS a b
  | [], [], z, _ => by simp [lessS]
  | [], _ :: _, _, h => by simp at h
  | _ :: _, [], _, h => by simp at h
  | x :: a, y :: b, z, h => by
    show lessS (x :: (a ++ [z])) (y :: (b ++ [z])) = lessS (x :: a) (y :: b)
    unfold lessS
    rw [lessS_snoc a b z (by simpa using h)]

theorem lessW_irr (a : Wy) : lessW a a = false := by simp [lessW, lessS_irr]
theorem lessW_trans {a b c : Wy} (h1 : lessW a b = true) (h2 : lessW b c = true) : lessW a c = true := by
  unfold lessW at h1 h2 ⊢
  by_cases e1 : a.far = b.far
  · rw [if_pos e1] at h1
    by_cases e2 : b.far = c.far
    · rw [if_pos e2] at h2
      rw [if_pos (e1.trans e2)]
      by_cases f1 : a.ss.length = b.ss.length
      · rw [if_pos f1] at h1
        by_cases f2 : b.ss.length = c.ss.length
        · rw [if_pos f2] at h2
          rw [if_pos (f1.trans f2)]
          exact lessS_trans _ _ _ h1 h2
        · rw [if_neg f2] at h2
          simp only [decide_eq_true_eq] at h2
          rw [if_neg (by omega)]
          simp only [decide_eq_true_eq]
          omega
      · rw [if_neg f1] at h1
        simp only [decide_eq_true_eq] at h1
        by_cases f2 : b.ss.length = c.ss.length
        · rw [if_neg (by omega)]
          simp only [decide_eq_true_eq]
          omega
        · rw [if_neg f2] at h2
          simp only [decide_eq_true_eq] at h2
          rw [if_neg (by omega)]
          simp only [decide_eq_true_eq]
          omega
    · rw [if_neg e2] at h2
      simp only [decide_eq_true_eq] at h2
      rw [if_neg (by omega)]
      simp only [decide_eq_true_eq]
      omega
  · rw [if_neg e1] at h1
    simp only [decide_eq_true_eq] at h1
    by_cases e2 : b.far = c.far
    · rw [if_neg (by omega)]
      simp only [decide_eq_true_eq]
      omega
    · rw [if_neg e2] at h2
      simp only [decide_eq_true_eq] at h2
      rw [if_neg (by omega)]
      simp only [decide_eq_true_eq]
      omega
theorem lessW_tri {a b : Wy} (h1 : lessW a b = false) (h2 : lessW b a = false) : a = b := by
  unfold lessW at h1 h2
  by_cases e1 : a.far = b.far
  · rw [if_pos e1] at h1
    rw [if_pos e1.symm] at h2
    by_cases f1 : a.ss.length = b.ss.length
    · rw [if_pos f1] at h1
      rw [if_pos f1.symm] at h2
      have := lessS_tri _ _ f1 h1 h2
      cases a; cases b
      simp only at e1 this
      rw [e1, this]
    · rw [if_neg f1] at h1
      rw [if_neg (fun h => f1 h.symm)] at h2
      simp only [decide_eq_false_iff_not] at h1 h2
      omega
  · rw [if_neg e1] at h1
    rw [if_neg (fun h => e1 h.symm)] at h2
    simp only [decide_eq_false_iff_not] at h1 h2
    omega
/-- a is not behind b. -/
def leW (a b : Wy) : Prop := lessW b a = false
theorem leW_refl (a : Wy) : leW a a := lessW_irr a
theorem leW_of_less {a b : Wy} (h : lessW a b = true) : leW a b := by
  unfold leW
  cases h' : lessW b a
  · rfl
  · have := lessW_trans h h'
    rw [lessW_irr] at this
    exact this.symm
theorem leW_total (a b : Wy) : leW a b ∨ lessW b a = true := by
  unfold leW
  cases lessW b a
  · exact .inl rfl
  · exact .inr rfl
theorem leW_trans {a b c : Wy} (h1 : leW a b) (h2 : leW b c) : leW a c := by
  unfold leW at *
  cases h : lessW c a
  · rfl
  · rcases leW_total b a with h3 | h3
    · have e := lessW_tri (a := a) (b := b) h3 h1
      subst e
      rw [h2] at h
      exact h.symm
    · have := lessW_trans h h3
      rw [h2] at this
      exact this.symm
theorem leW_antisymm {a b : Wy} (h1 : leW a b) (h2 : leW b a) : a = b := lessW_tri h2 h1
theorem less_le {a b c : Wy} (h1 : lessW a b = true) (h2 : leW b c) : lessW a c = true := by
  cases h : lessW a c
  · have : leW c a := h
    have := leW_trans h2 this
    unfold leW at this
    rw [h1] at this
    exact this.symm
  · rfl
theorem le_less {a b c : Wy} (h1 : leW a b) (h2 : lessW b c = true) : lessW a c = true := by
  cases h : lessW a c
  · have : leW c a := h
    have := leW_trans this h1
    unfold leW at this
    rw [h2] at this
    exact this.symm
  · rfl
theorem le_snoc {a b : Wy} (c : Int) (z : Int × Int) (h : leW a b) : leW ⟨a.far + c, a.ss ++ [z]⟩ ⟨b.far + c, b.ss ++ [z]⟩ := by
  unfold leW lessW at *
  simp only [List.length_append, List.length_singleton]
  by_cases e1 : b.far = a.far
  · rw [if_pos e1] at h
    rw [if_pos (by omega)]
    by_cases f1 : b.ss.length = a.ss.length
    · rw [if_pos f1] at h
      rw [if_pos (by omega), lessS_snoc _ _ _ f1]
      exact h
    · rw [if_neg f1] at h
      rw [if_neg (by omega)]
      simp only [decide_eq_false_iff_not] at h ⊢
      omega
  · rw [if_neg e1] at h
    rw [if_neg (by omega)]
    simp only [decide_eq_false_iff_not] at h ⊢
    omega
theorem less_snoc (a : Wy) {c : Int} (hc : 0 ≤ c) (z : Int × Int) : lessW a ⟨a.far + c, a.ss ++ [z]⟩ = true := by
  unfold lessW
  simp only [List.length_append, List.length_singleton]
  by_cases e : a.far = a.far + c
  · rw [if_pos e, if_neg (by omega)]
    simp only [decide_eq_true_eq]
    omega
  · rw [if_neg e]
    simp only [decide_eq_true_eq]
    omega

/-- A track as what lies behind its ends: over the joint at an end, the ends behind it; how long pieces are. -/
structure Gr where
  n : Nat
  nx : Int × Int → List (Int × Int)
  len : Int → Int
  ok : ∀ h e, e ∈ nx h → endOk n e = true
  pos : ∀ p : Int, 0 ≤ p → p < n → 1 ≤ len p ∧ len p ≤ 10000000

def stepOf (e : Int × Int) : Int × Int := (e.1, if e.2 = 0 then 1 else -1)

section
variable (G : Gr) (s : Int × Int) (room : Int)

def costW (y : Wy) (t : Int × Int) : Int := if y.ss.length = 1 then room else G.len t.1
def extW (y : Wy) (t e : Int × Int) : Wy := ⟨y.far + costW G room y t, y.ss ++ [stepOf e]⟩

/-- A way from a spot: over joints, or just its own piece. -/
inductive WayR : Wy → Prop
  | base : WayR ⟨0, [s]⟩
  | more {y : Wy} {t e : Int × Int} (h : WayR y) (ht : y.ss.getLast? = some t) (he : e ∈ G.nx (headP t.1 t.2)) : WayR (extW G room y t e)

/-- A way over a joint or more to the step t. -/
structure ToW (t : Int × Int) (y : Wy) : Prop where
  way : WayR G s room y
  last : y.ss.getLast? = some t
  two : 2 ≤ y.ss.length
def BestW (P : Wy → Prop) (b : Wy) : Prop := P b ∧ ∀ y, P y → leW b y
theorem BestW.one {P : Wy → Prop} {b b' : Wy} (h : BestW P b) (h' : BestW P b') : b = b' := leW_antisymm (h.2 _ h'.1) (h'.2 _ h.1)
end

section
variable {G : Gr} {s : Int × Int} {room : Int}

theorem WayR.pos {y : Wy} (h : WayR G s room y) : 1 ≤ y.ss.length := by
  induction h with
  | base => simp
  | more h ht he ih => simp [extW]
theorem stepOf_ok {n : Nat} {e : Int × Int} (h : endOk n e = true) : (0 ≤ (stepOf e).1 ∧ (stepOf e).1 < n) ∧ ((stepOf e).2 = 1 ∨ (stepOf e).2 = -1) := by
  simp only [endOk, inR, Bool.and_eq_true, decide_eq_true_eq] at h
  unfold stepOf
  refine ⟨⟨by show 0 ≤ e.1; omega, by show e.1 < n; omega⟩, ?_⟩
  dsimp only
  split <;> omega
theorem stepOf_inj {n : Nat} {e f : Int × Int} (he : endOk n e = true) (hf : endOk n f = true) (h : stepOf e = stepOf f) : e = f := by
  simp only [endOk, inR, Bool.and_eq_true, decide_eq_true_eq] at he hf
  unfold stepOf at h
  obtain ⟨h1, h2⟩ := Prod.mk.inj h
  refine Prod.ext h1 ?_
  split at h2 <;> split at h2 <;> omega
/-- The last step of a way over joints is one of a piece. -/
theorem WayR.last_ok {y : Wy} (h : WayR G s room y) (h2 : 2 ≤ y.ss.length) : ∃ e, endOk G.n e = true ∧ y.ss.getLast? = some (stepOf e) := by
  cases h with
  | base => simp at h2
  | more h ht he => exact ⟨_, G.ok _ _ he, by simp [extW]⟩
theorem cost_nonneg {y : Wy} (hr : 0 ≤ room) (h : WayR G s room y) {t : Int × Int} (ht : y.ss.getLast? = some t) : 0 ≤ costW G room y t ∧ (2 ≤ y.ss.length → 1 ≤ costW G room y t ∧ costW G room y t ≤ 10000000) := by
  unfold costW
  split
  · exact ⟨hr, fun _ => by omega⟩
  · have h1 := h.pos
    obtain ⟨e, he, hl⟩ := h.last_ok (by omega)
    rw [hl] at ht
    cases ht
    obtain ⟨⟨h3, h4⟩, _⟩ := stepOf_ok he
    have := G.pos _ h3 h4
    exact ⟨by omega, fun _ => by omega⟩
theorem ext_less (hr : 0 ≤ room) {y : Wy} (h : WayR G s room y) {t : Int × Int} (ht : y.ss.getLast? = some t) (e : Int × Int) : lessW y (extW G room y t e) = true :=
  less_snoc y (cost_nonneg hr h ht).1 _
/-- How far a way is at most. -/
theorem WayR.far_le {y : Wy} (hr : 0 ≤ room ∧ room ≤ 10000000) (h : WayR G s room y) : 0 ≤ y.far ∧ y.far ≤ ((y.ss.length : Int) - 1) * 10000000 := by
  induction h with
  | base => simp
  | @more y t e h ht he ih =>
    have h1 := cost_nonneg hr.1 h ht
    have h2 := h.pos
    have h3 : costW G room y t ≤ 10000000 := by
      by_cases e : y.ss.length = 1
      · unfold costW; rw [if_pos e]; exact hr.2
      · exact (h1.2 (by omega)).2
    simp only [extW, List.length_append, List.length_singleton]
    omega
/-- To go on from a lesser way is to be less. -/
theorem ext_le {a b : Wy} (h : leW a b) (hl : 2 ≤ a.ss.length ∧ 2 ≤ b.ss.length) (t e : Int × Int) : leW (extW G room a t e) (extW G room b t e) := by
  unfold extW costW
  rw [if_neg (by omega), if_neg (by omega)]
  exact le_snoc _ _ h
/-- A way over two joints or more is a way that was gone on with. -/
theorem ToW.cases {t : Int × Int} {y : Wy} (h : ToW G s room t y) : ∃ e, endOk G.n e = true ∧ t = stepOf e ∧ ((e ∈ G.nx (headP s.1 s.2) ∧ y = extW G room ⟨0, [s]⟩ s e) ∨ ∃ u x, ToW G s room u x ∧ e ∈ G.nx (headP u.1 u.2) ∧ y = extW G room x u e) := by
  obtain ⟨hw, hl, h2⟩ := h
  cases hw with
  | base => simp at h2
  | @more x u e hx hu he =>
    have : t = stepOf e := by
      have : (extW G room x u e).ss.getLast? = some (stepOf e) := by simp [extW]
      rw [this] at hl
      cases hl
      rfl
    refine ⟨e, G.ok _ _ he, this, ?_⟩
    by_cases h3 : 2 ≤ x.ss.length
    · exact .inr ⟨u, x, ⟨hx, hu, h3⟩, he, rfl⟩
    · cases hx with
      | base =>
        have : u = s := by simpa using hu.symm
        subst this
        exact .inl ⟨he, rfl⟩
      | more h' _ _ =>
        have := h'.pos
        have e : ∀ (y : Wy) (t e : Int × Int), (extW G room y t e).ss.length = y.ss.length + 1 := fun y t e => by simp [extW]
        rw [e] at h3
        omega
theorem ToW.step {u : Int × Int} {x : Wy} (h : ToW G s room u x) {e : Int × Int} (he : e ∈ G.nx (headP u.1 u.2)) : ToW G s room (stepOf e) (extW G room x u e) :=
  ⟨.more h.way h.last he, by simp [extW], by have := h.two; simp [extW]; omega⟩
theorem ToW.first {e : Int × Int} (he : e ∈ G.nx (headP s.1 s.2)) : ToW G s room (stepOf e) (extW G room ⟨0, [s]⟩ s e) :=
  ⟨.more .base rfl he, by simp [extW], by simp [extW]⟩

/-- Dijkstra: what is known is best, what goes on from it is known or open. -/
structure DijI (known : Int × Int → Option Wy) (opn : List Wy) : Prop where
  best : ∀ t b, known t = some b → BestW (ToW G s room t) b
  way : ∀ y ∈ opn, ∃ t, ToW G s room t y
  start : ∀ e ∈ G.nx (headP s.1 s.2), known (stepOf e) ≠ none ∨ extW G room ⟨0, [s]⟩ s e ∈ opn
  goes : ∀ u b, known u = some b → ∀ e ∈ G.nx (headP u.1 u.2), known (stepOf e) ≠ none ∨ extW G room b u e ∈ opn

/-- Each way to a step that is not known is behind one that is open. -/
theorem DijI.ahead (hr : 0 ≤ room) {known : Int × Int → Option Wy} {opn : List Wy} (h : DijI (G := G) (s := s) (room := room) known opn) {y : Wy} (hw : WayR G s room y) : ∀ {t}, y.ss.getLast? = some t → 2 ≤ y.ss.length → known t = none → ∃ x ∈ opn, leW x y := by
  induction hw with
  | base => intro t _ h2 _; simp at h2
  | @more y u e hy hu he ih =>
    intro t hl _ hk
    have ht : t = stepOf e := by
      have : (extW G room y u e).ss.getLast? = some (stepOf e) := by simp [extW]
      rw [this] at hl
      cases hl
      rfl
    subst ht
    by_cases h2 : 2 ≤ y.ss.length
    · cases hku : known u with
      | none =>
        obtain ⟨x, hx, hle⟩ := ih hu h2 hku
        exact ⟨x, hx, leW_trans hle (leW_of_less (ext_less hr hy hu e))⟩
      | some b =>
        have hb := h.best u b hku
        rcases h.goes u b hku e he with h3 | h3
        · exact absurd hk h3
        · exact ⟨_, h3, ext_le (hb.2 y ⟨hy, hu, h2⟩) ⟨hb.1.two, h2⟩ u e⟩
    · cases hy with
      | base =>
        have : u = s := by simpa using hu.symm
        subst this
        rcases h.start e he with h3 | h3
        · exact absurd hk h3
        · exact ⟨_, h3, leW_refl _⟩
      | more h' _ _ =>
        have := h'.pos
        have e : ∀ (y : Wy) (t e : Int × Int), (extW G room y t e).ss.length = y.ss.length + 1 := fun y t e => by simp [extW]
        rw [e] at h2
        omega
/-- What is open and first is best, where its step is not known. -/
theorem DijI.first (hr : 0 ≤ room) {known : Int × Int → Option Wy} {opn : List Wy} (h : DijI (G := G) (s := s) (room := room) known opn) {x : Wy} (hx : x ∈ opn) (hmin : ∀ y ∈ opn, leW x y) {t : Int × Int} (ht : x.ss.getLast? = some t) (hk : known t = none) : BestW (ToW G s room t) x := by
  obtain ⟨t', h1⟩ := h.way x hx
  have : t' = t := by have := h1.last; rw [ht] at this; cases this; rfl
  subst this
  refine ⟨h1, fun y hy => ?_⟩
  obtain ⟨z, hz, hle⟩ := h.ahead hr hy.way hy.last hy.two hk
  exact leW_trans (hmin z hz) hle
/-- When nothing is open, each step to which there is a way is known. -/
theorem DijI.all (hr : 0 ≤ room) {known : Int × Int → Option Wy} (h : DijI (G := G) (s := s) (room := room) known []) {t : Int × Int} {y : Wy} (hy : ToW G s room t y) : known t ≠ none := by
  intro hk
  obtain ⟨x, hx, _⟩ := h.ahead hr hy.way hy.last hy.two hk
  simp at hx
end
end Go.Proofs.YtijdigdcmjdooaaGreat

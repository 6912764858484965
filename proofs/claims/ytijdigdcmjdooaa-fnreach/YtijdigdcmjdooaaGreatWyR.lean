/- Shortest ways, round by round and by what is nearest: plain. Own work. -/
import Derived.Test.YtijdigdcmjdooaaGreatMxAG
namespace Go.Proofs.YtijdigdcmjdooaaGreat

theorem few_below : ∀ (m : Nat) (l : List Nat), l.Nodup → (∀ x ∈ l, x < m) → l.length ≤ m
  | 0, l, _, h => by
    cases l with
    | nil => simp
    | cons x l => exact absurd (h x (by simp)) (by omega)
  | m + 1, l, hn, h => by
    by_cases hm : m ∈ l
    · have h1 := few_below m (l.erase m) (hn.erase m) (fun x hx => by
        have h2 := (hn.mem_erase_iff).1 hx
        have := h x h2.2
        omega)
      have := List.length_erase_of_mem hm
      have hp : 0 < l.length := List.length_pos_of_mem hm
      omega
    · exact Nat.le_succ_of_le (few_below m l hn (fun x hx => by
        have := h x hx
        have hne : x ≠ m := fun e => hm (e ▸ hx)
        omega))

def idxS (t : Int × Int) : Nat := 2 * t.1.toNat + (if t.2 = 1 then 0 else 1)
/-- Steps of n pieces, all different, are not more than 2n. -/
theorem few_steps {n : Nat} {l : List (Int × Int)} (hn : l.Nodup) (h : ∀ t ∈ l, ∃ e, endOk n e = true ∧ t = stepOf e) : l.length ≤ 2 * n := by
  have hinj : ∀ a ∈ l, ∀ b ∈ l, idxS a = idxS b → a = b := by
    intro a ha b hb hab
    obtain ⟨e, he, rfl⟩ := h a ha
    obtain ⟨f, hf, rfl⟩ := h b hb
    obtain ⟨⟨h1, h2⟩, h3⟩ := stepOf_ok he
    obtain ⟨⟨h4, h5⟩, h6⟩ := stepOf_ok hf
    unfold idxS at hab
    refine Prod.ext ?_ ?_
    · split at hab <;> split at hab <;> omega
    · split at hab <;> split at hab <;> omega
  have hmap : (l.map idxS).Nodup := by
    clear h
    induction l with
    | nil => simp
    | cons x l ih =>
      rw [List.map_cons, List.nodup_cons]
      rw [List.nodup_cons] at hn
      refine ⟨fun hx => ?_, ih hn.2 (fun a ha b hb => hinj a (by simp [ha]) b (by simp [hb]))⟩
      obtain ⟨y, hy, hxy⟩ := List.mem_map.1 hx
      have := hinj y (by simp [hy]) x (by simp) hxy
      subst this
      exact hn.1 hy
  have := few_below (2 * n) (l.map idxS) hmap (by
    intro x hx
    obtain ⟨t, ht, rfl⟩ := List.mem_map.1 hx
    obtain ⟨e, he, rfl⟩ := h t ht
    obtain ⟨⟨h1, h2⟩, h3⟩ := stepOf_ok he
    unfold idxS
    split <;> omega)
  simpa using this

section
variable {G : Gr} {s : Int × Int} {room : Int}

theorem extW_len (y : Wy) (t e : Int × Int) : (extW G room y t e).ss.length = y.ss.length + 1 := by simp [extW]
theorem extW_last (y : Wy) (t e : Int × Int) : (extW G room y t e).ss.getLast? = some (stepOf e) := by simp [extW]
theorem extW_tail (y : Wy) (t e : Int × Int) (h : 1 ≤ y.ss.length) : (extW G room y t e).ss.tail = y.ss.tail ++ [stepOf e] := by
  obtain ⟨f, ss⟩ := y
  cases ss with
  | nil => simp at h
  | cons x ss => simp [extW]

/-- Each step of a way but the first was come to. -/
theorem WayR.prefix (hr : 0 ≤ room) {y : Wy} (h : WayR G s room y) : ∀ u ∈ y.ss.tail, ∃ x, ToW G s room u x ∧ x.ss.length ≤ y.ss.length ∧ leW x y := by
  induction h with
  | base => intro u hu; simp at hu
  | @more y t e h ht he ih =>
    intro u hu
    rw [extW_tail y t e h.pos] at hu
    rcases List.mem_append.1 hu with hu | hu
    · obtain ⟨x, h1, h2, h3⟩ := ih u hu
      exact ⟨x, h1, by rw [extW_len]; omega, leW_trans h3 (leW_of_less (ext_less hr h ht e))⟩
    · have : u = stepOf e := by simpa using hu
      subst this
      exact ⟨_, ⟨.more h ht he, extW_last y t e, by rw [extW_len]; have := h.pos; omega⟩, Nat.le_refl _, leW_refl _⟩
theorem WayR.steps_ok {y : Wy} (h : WayR G s room y) : ∀ t ∈ y.ss.tail, ∃ e, endOk G.n e = true ∧ t = stepOf e := by
  induction h with
  | base => intro u hu; simp at hu
  | @more y t e h ht he ih =>
    intro u hu
    rw [extW_tail y t e h.pos] at hu
    rcases List.mem_append.1 hu with hu | hu
    · exact ih u hu
    · exact ⟨e, G.ok _ _ he, by simpa using hu⟩

/-! ### Round by round -/
def ToK (G : Gr) (s : Int × Int) (room : Int) (k : Nat) (t : Int × Int) (y : Wy) : Prop := ToW G s room t y ∧ y.ss.length ≤ k + 1

/-- What a candidate does to what is best so far and to the next line. -/
def procX (st : (Int × Int → Option Wy) × List Wy) (c : (Int × Int) × Wy) : (Int × Int → Option Wy) × List Wy :=
  match st.1 c.1 with
  | none => (fun t => if t = c.1 then some c.2 else st.1 t, st.2 ++ [c.2])
  | some b => if lessW c.2 b = true then (fun t => if t = c.1 then some c.2 else st.1 t, st.2 ++ [c.2]) else st
def procAll (best : Int × Int → Option Wy) (cs : List ((Int × Int) × Wy)) : (Int × Int → Option Wy) × List Wy := cs.foldl procX (best, [])
def candsOf (G : Gr) (room : Int) (y : Wy) (t : Int × Int) : List ((Int × Int) × Wy) := (G.nx (headP t.1 t.2)).map fun e => (stepOf e, extW G room y t e)
def cands (G : Gr) (room : Int) (line : List Wy) : List ((Int × Int) × Wy) := line.flatMap fun y => candsOf G room y (y.ss.getLast?.getD (0, 0))

theorem procAll_snoc (best : Int × Int → Option Wy) (cs : List ((Int × Int) × Wy)) (c : (Int × Int) × Wy) : procAll best (cs ++ [c]) = procX (procAll best cs) c := by
  simp [procAll, List.foldl_append]
theorem procX_put {st : (Int × Int → Option Wy) × List Wy} {c : (Int × Int) × Wy} (h : ∀ b, st.1 c.1 = some b → lessW c.2 b = true) : procX st c = (fun t => if t = c.1 then some c.2 else st.1 t, st.2 ++ [c.2]) := by
  unfold procX
  cases hb : st.1 c.1 with
  | none => rfl
  | some b => simp only [h b hb]; rfl
theorem procX_not {st : (Int × Int → Option Wy) × List Wy} {c : (Int × Int) × Wy} {b : Wy} (hb : st.1 c.1 = some b) (h : lessW c.2 b = false) : procX st c = st := by
  unfold procX
  rw [hb]
  simp only [h]
  rfl

structure FoldI (best : Int × Int → Option Wy) (cs : List ((Int × Int) × Wy)) (st : (Int × Int → Option Wy) × List Wy) : Prop where
  f1 : ∀ t b, st.1 t = some b → best t = some b ∨ ((t, b) ∈ cs ∧ b ∈ st.2)
  f2 : ∀ t b, best t = some b → ∃ b', st.1 t = some b' ∧ leW b' b
  f3 : ∀ c ∈ cs, ∃ b', st.1 c.1 = some b' ∧ leW b' c.2
  f4 : ∀ x ∈ st.2, ∃ t, (t, x) ∈ cs ∧ ∀ b, best t = some b → lessW x b = true
theorem foldI (best : Int × Int → Option Wy) : ∀ n (cs : List ((Int × Int) × Wy)), cs.length = n → FoldI best cs (procAll best cs)
  | 0, cs, h => by
    obtain rfl : cs = [] := List.eq_nil_of_length_eq_zero h
    exact ⟨fun t b h => .inl h, fun t b h => ⟨b, h, leW_refl _⟩, fun c hc => by simp at hc, fun x hx => by simp [procAll] at hx⟩
  | n + 1, cs, h => by
    have hne : cs ≠ [] := fun e => by simp [e] at h
    obtain ⟨cs', c, rfl⟩ : ∃ cs' c, cs = cs' ++ [c] := ⟨cs.dropLast, cs.getLast hne, (List.dropLast_concat_getLast hne).symm⟩
    have ih := foldI best n cs' (by simpa using h)
    rw [procAll_snoc]
    generalize procAll best cs' = st at ih ⊢
    by_cases hput : ∀ b, st.1 c.1 = some b → lessW c.2 b = true
    · rw [procX_put hput]
      refine ⟨?_, ?_, ?_, ?_⟩
      · intro t b hb
        dsimp only at hb
        by_cases e : t = c.1
        · rw [if_pos e] at hb
          cases hb
          subst e
          exact .inr ⟨by simp, by simp⟩
        · rw [if_neg e] at hb
          rcases ih.f1 t b hb with h1 | ⟨h1, h2⟩
          · exact .inl h1
          · exact .inr ⟨by simp [h1], by simp [h2]⟩
      · intro t b hb
        obtain ⟨b', h1, h2⟩ := ih.f2 t b hb
        dsimp only
        by_cases e : t = c.1
        · subst e
          exact ⟨c.2, if_pos rfl, leW_trans (leW_of_less (hput b' h1)) h2⟩
        · exact ⟨b', by rw [if_neg e]; exact h1, h2⟩
      · intro d hd
        dsimp only
        rcases List.mem_append.1 hd with hd | hd
        · obtain ⟨b', h1, h2⟩ := ih.f3 d hd
          by_cases e : d.1 = c.1
          · rw [e] at h1
            exact ⟨c.2, by rw [if_pos e], leW_trans (leW_of_less (hput b' h1)) h2⟩
          · exact ⟨b', by rw [if_neg e]; exact h1, h2⟩
        · have : d = c := by simpa using hd
          subst this
          exact ⟨d.2, if_pos rfl, leW_refl _⟩
      · intro x hx
        dsimp only at hx
        rcases List.mem_append.1 hx with hx | hx
        · obtain ⟨t, h1, h2⟩ := ih.f4 x hx
          exact ⟨t, by simp [h1], h2⟩
        · have : x = c.2 := by simpa using hx
          subst this
          refine ⟨c.1, by simp, fun b hb => ?_⟩
          obtain ⟨b', h1, h2⟩ := ih.f2 c.1 b hb
          exact less_le (hput b' h1) h2
    · obtain ⟨b0, hb0, hno⟩ : ∃ b, st.1 c.1 = some b ∧ lessW c.2 b = false := by
        cases hb : st.1 c.1 with
        | none => exact absurd (fun b h => by rw [hb] at h; cases h) hput
        | some b =>
          refine ⟨b, rfl, ?_⟩
          cases hl : lessW c.2 b
          · rfl
          · exact absurd (fun b' h => by rw [hb] at h; cases h; exact hl) hput
      rw [procX_not hb0 hno]
      refine ⟨?_, ih.f2, ?_, ?_⟩
      · intro t b hb
        rcases ih.f1 t b hb with h1 | ⟨h1, h2⟩
        · exact .inl h1
        · exact .inr ⟨by simp [h1], h2⟩
      · intro d hd
        rcases List.mem_append.1 hd with hd | hd
        · exact ih.f3 d hd
        · have : d = c := by simpa using hd
          subst this
          exact ⟨b0, hb0, hno⟩
      · intro x hx
        obtain ⟨t, h1, h2⟩ := ih.f4 x hx
        exact ⟨t, by simp [h1], h2⟩

/-- Behind k rounds. -/
structure RoundI (G : Gr) (s : Int × Int) (room : Int) (k : Nat) (best : Int × Int → Option Wy) (line : List Wy) : Prop where
  isB : ∀ t b, best t = some b → BestW (ToK G s room k t) b
  noB : ∀ t, best t = none → ∀ y, ¬ ToK G s room k t y
  way : ∀ y ∈ line, WayR G s room y ∧ y.ss.length = k + 1
  there : ∀ t b, best t = some b → b.ss.length = k + 1 → b ∈ line
  base : k = 0 → (⟨0, [s]⟩ : Wy) ∈ line
  new : ∀ y ∈ line, ∀ t, y.ss.getLast? = some t → ∀ y', ToW G s room t y' → y'.ss.length ≤ k → lessW y y' = true
  nodup : ∀ y ∈ line, y.ss.tail.Nodup
  short : ∀ t b, best t = some b → b.ss.length ≤ 2 * G.n + 1

theorem round_start : RoundI G s room 0 (fun _ => none) [⟨0, [s]⟩] where
  isB := fun t b h => by cases h
  noB := fun t _ y hy => by have := hy.1.two; have := hy.2; omega
  way := fun y hy => by
    obtain rfl : y = ⟨0, [s]⟩ := by simpa using hy
    exact ⟨.base, rfl⟩
  there := fun t b h => by cases h
  base := fun _ => by simp
  new := fun y _ t _ y' hy' h => by have := hy'.two; omega
  nodup := fun y hy => by
    obtain rfl : y = ⟨0, [s]⟩ := by simpa using hy
    simp
  short := fun t b h => by cases h

theorem mem_cands {line : List Wy} {t : Int × Int} {x : Wy} : (t, x) ∈ cands G room line ↔ ∃ y ∈ line, ∃ e ∈ G.nx (headP (y.ss.getLast?.getD (0, 0)).1 (y.ss.getLast?.getD (0, 0)).2), t = stepOf e ∧ x = extW G room y (y.ss.getLast?.getD (0, 0)) e := by
  unfold cands candsOf
  simp only [List.mem_flatMap, List.mem_map, Prod.mk.injEq]
  constructor
  · rintro ⟨y, hy, e, he, h1, h2⟩
    exact ⟨y, hy, e, he, h1.symm, h2.symm⟩
  · rintro ⟨y, hy, e, he, h1, h2⟩
    exact ⟨y, hy, e, he, h1.symm, h2.symm⟩
theorem line_cand {k : Nat} {best : Int × Int → Option Wy} {line : List Wy} (h : RoundI G s room k best line) {t : Int × Int} {x : Wy} (hc : (t, x) ∈ cands G room line) : ToW G s room t x ∧ x.ss.length = k + 2 ∧ ∃ y ∈ line, ∃ u e, y.ss.getLast? = some u ∧ x = extW G room y u e ∧ t = stepOf e := by
  obtain ⟨y, hy, e, he, rfl, rfl⟩ := mem_cands.1 hc
  obtain ⟨h1, h2⟩ := h.way y hy
  have hl : y.ss.getLast? = Option.some (y.ss.getLast?.getD (0, 0)) := by
    cases hh : y.ss.getLast? with
    | none => rw [List.getLast?_eq_none_iff] at hh; rw [hh] at h2; simp at h2
    | some u => rfl
  refine ⟨⟨.more h1 hl he, extW_last _ _ _, by rw [extW_len]; omega⟩, by rw [extW_len]; omega, y, hy, _, e, hl, rfl, rfl⟩
theorem cand_of {line : List Wy} {y : Wy} (hy : y ∈ line) {u e : Int × Int} (hu : y.ss.getLast? = some u) (he : e ∈ G.nx (headP u.1 u.2)) : (stepOf e, extW G room y u e) ∈ cands G room line := by
  refine mem_cands.2 ⟨y, hy, e, ?_, rfl, ?_⟩
  · rw [hu]; exact he
  · rw [hu]; rfl

theorem round_next (hr : 0 ≤ room) {k : Nat} {best : Int × Int → Option Wy} {line : List Wy} (h : RoundI G s room k best line) : RoundI G s room (k + 1) (procAll best (cands G room line)).1 (procAll best (cands G room line)).2 := by
  have hf := foldI best _ (cands G room line) rfl
  generalize procAll best (cands G room line) = st at hf ⊢
  -- each way of one joint more is met
  have hmeet : ∀ t y, ToK G s room (k + 1) t y → ∃ b, st.1 t = Option.some b ∧ leW b y := by
    intro t y hy
    by_cases hk : y.ss.length ≤ k + 1
    · cases hb : best t with
      | none => exact absurd ⟨hy.1, hk⟩ (h.noB t hb y)
      | some b =>
        obtain ⟨b', h1, h2⟩ := hf.f2 t b hb
        exact ⟨b', h1, leW_trans h2 ((h.isB t b hb).2 y ⟨hy.1, hk⟩)⟩
    · have hlen : y.ss.length = k + 2 := by have := hy.2; omega
      obtain ⟨e, he, rfl, h1 | ⟨u, x, hx, heu, rfl⟩⟩ := hy.1.cases
      · obtain ⟨h1, rfl⟩ := h1
        have hk0 : k = 0 := by rw [extW_len] at hlen; simp at hlen; omega
        exact hf.f3 _ (cand_of (h.base hk0) rfl h1)
      · rw [extW_len] at hlen
        cases hb : best u with
        | none => exact absurd ⟨hx, by omega⟩ (h.noB u hb x)
        | some b =>
          have hB := h.isB u b hb
          have hle := ext_le (G := G) (room := room) (hB.2 x ⟨hx, by omega⟩) ⟨hB.1.1.two, hx.two⟩ u e
          by_cases hbl : b.ss.length = k + 1
          · obtain ⟨b', h2, h3⟩ := hf.f3 _ (cand_of (h.there u b hb hbl) hB.1.1.last heu)
            exact ⟨b', h2, leW_trans h3 hle⟩
          · have hTo := hB.1.1.step heu
            have hkk : (extW G room b u e).ss.length ≤ k + 1 := by rw [extW_len]; have := hB.1.2; omega
            cases hb2 : best (stepOf e) with
            | none => exact absurd ⟨hTo, hkk⟩ (h.noB _ hb2 _)
            | some b2 =>
              obtain ⟨b', h2, h3⟩ := hf.f2 _ b2 hb2
              exact ⟨b', h2, leW_trans h3 (leW_trans ((h.isB _ b2 hb2).2 _ ⟨hTo, hkk⟩) hle)⟩
  have hnew : ∀ y ∈ st.2, ∀ t, y.ss.getLast? = Option.some t → ∀ y', ToW G s room t y' → y'.ss.length ≤ k + 1 → lessW y y' = true := by
    intro y hy t ht y' hy' hl
    obtain ⟨t', hc, hlt⟩ := hf.f4 y hy
    obtain ⟨h1, h2, _⟩ := line_cand h hc
    have : t' = t := by have := h1.last; rw [ht] at this; cases this; rfl
    subst this
    cases hb : best t' with
    | none => exact absurd ⟨hy', hl⟩ (h.noB t' hb y')
    | some b => exact less_le (hlt b hb) ((h.isB t' b hb).2 y' ⟨hy', hl⟩)
  have hnod : ∀ y ∈ st.2, y.ss.tail.Nodup := by
    intro y hy
    obtain ⟨t, hc, _⟩ := hf.f4 y hy
    obtain ⟨h1, h2, x, hx, u, e, hu, rfl, rfl⟩ := line_cand h hc
    obtain ⟨hxw, hxl⟩ := h.way x hx
    rw [extW_tail x u e hxw.pos, List.nodup_append]
    refine ⟨h.nodup x hx, by simp, ?_⟩
    intro a ha b hb hab
    have hbe : b = stepOf e := by simpa using hb
    subst hbe
    subst hab
    obtain ⟨z, hz, hzl, hzle⟩ := hxw.prefix hr _ ha
    have h3 := hnew _ hy _ (extW_last x u e) z hz (by omega)
    have h4 := leW_trans hzle (leW_of_less (ext_less hr hxw hu e))
    unfold leW at h4
    rw [h4] at h3
    cases h3
  refine ⟨?_, ?_, ?_, ?_, fun e => by omega, hnew, hnod, ?_⟩
  · intro t b hb
    refine ⟨?_, fun y hy => ?_⟩
    · rcases hf.f1 t b hb with h1 | ⟨h1, _⟩
      · have := (h.isB t b h1).1
        exact ⟨this.1, by have := this.2; omega⟩
      · obtain ⟨h2, h3, _⟩ := line_cand h h1
        exact ⟨h2, by omega⟩
    · obtain ⟨b', h1, h2⟩ := hmeet t y hy
      rw [hb] at h1
      cases h1
      exact h2
  · intro t hb y hy
    obtain ⟨b', h1, _⟩ := hmeet t y hy
    rw [hb] at h1
    cases h1
  · intro y hy
    obtain ⟨t, hc, _⟩ := hf.f4 y hy
    obtain ⟨h1, h2, _⟩ := line_cand h hc
    exact ⟨h1.way, by omega⟩
  · intro t b hb hl
    rcases hf.f1 t b hb with h1 | ⟨_, h2⟩
    · have := (h.isB t b h1).1.2
      omega
    · exact h2
  · intro t b hb
    rcases hf.f1 t b hb with h1 | ⟨h1, h2⟩
    · exact h.short t b h1
    · obtain ⟨h3, h4, _⟩ := line_cand h h1
      have := few_steps (hnod b h2) h3.way.steps_ok
      rw [List.length_tail] at this
      omega
/-- While a line is there, there were not more than 2n rounds. -/
theorem round_few {k : Nat} {best : Int × Int → Option Wy} {line : List Wy} (h : RoundI G s room k best line) (hne : line ≠ []) : k ≤ 2 * G.n := by
  obtain ⟨y, hy⟩ := List.exists_mem_of_ne_nil _ hne
  obtain ⟨h1, h2⟩ := h.way y hy
  have := few_steps (h.nodup y hy) h1.steps_ok
  rw [List.length_tail] at this
  omega
/-- With no line left, what is best so far is best. -/
theorem round_end (hr : 0 ≤ room) {k : Nat} {best : Int × Int → Option Wy} (h : RoundI G s room k best []) : (∀ t b, best t = some b → BestW (ToW G s room t) b) ∧ (∀ t, best t = none → ∀ y, ¬ ToW G s room t y) := by
  have hall : ∀ m, RoundI G s room (k + m) best [] := by
    intro m
    induction m with
    | zero => exact h
    | succ m ih => exact round_next hr ih
  constructor
  · intro t b hb
    refine ⟨(h.isB t b hb).1.1, fun y hy => ?_⟩
    exact ((hall y.ss.length).isB t b hb).2 y ⟨hy, by omega⟩
  · intro t hb y hy
    exact (hall y.ss.length).noB t hb y ⟨hy, by omega⟩

/-! ### By what is nearest -/
/-- What is known, what is open: and how many steps they have. -/
structure DijJ (G : Gr) (s : Int × Int) (room : Int) (known : Int × Int → Option Wy) (opn : List Wy) : Prop where
  inv : DijI (G := G) (s := s) (room := room) known opn
  kin : ∀ u b, known u = some b → b.ss.tail.Nodup ∧ ∀ v ∈ b.ss.tail, known v ≠ none
  oin : ∀ y ∈ opn, ∃ x u e, y = extW G room x u e ∧ WayR G s room x ∧ x.ss.getLast? = some u ∧ e ∈ G.nx (headP u.1 u.2) ∧ x.ss.tail.Nodup ∧ ∀ v ∈ x.ss.tail, known v ≠ none

theorem dij_start : DijJ G s room (fun _ => none) ((candsOf G room ⟨0, [s]⟩ s).map Prod.snd) where
  inv := {
    best := fun t b h => by cases h
    way := fun y hy => by
      simp only [candsOf, List.map_map, List.mem_map, Function.comp] at hy
      obtain ⟨e, he, rfl⟩ := hy
      exact ⟨_, ToW.first he⟩
    start := fun e he => .inr (by
      simp only [candsOf, List.map_map, List.mem_map, Function.comp]
      exact ⟨e, he, rfl⟩)
    goes := fun u b h => by cases h }
  kin := fun u b h => by cases h
  oin := fun y hy => by
    simp only [candsOf, List.map_map, List.mem_map, Function.comp] at hy
    obtain ⟨e, he, rfl⟩ := hy
    exact ⟨_, s, e, rfl, .base, rfl, he, by simp, fun v hv => by simp at hv⟩

theorem DijJ.len {known : Int × Int → Option Wy} {opn : List Wy} (h : DijJ G s room known opn) {y : Wy} (hy : y ∈ opn) : 2 ≤ y.ss.length ∧ y.ss.length ≤ 2 * G.n + 2 := by
  obtain ⟨x, u, e, rfl, hx, hu, _, hn, _⟩ := h.oin y hy
  have := few_steps hn hx.steps_ok
  rw [List.length_tail] at this
  have := hx.pos
  rw [extW_len]
  omega
/-- The first one out leads to what is known. -/
theorem DijJ.drop {known : Int × Int → Option Wy} {opn rest : List Wy} (h : DijJ G s room known opn) {x : Wy} {t : Int × Int} (hm : ∀ y, y ∈ opn ↔ y = x ∨ y ∈ rest) (ht : x.ss.getLast? = some t) (hk : known t ≠ none) : DijJ G s room known rest where
  inv := {
    best := h.inv.best
    way := fun y hy => h.inv.way y ((hm y).2 (.inr hy))
    start := fun e he => by
      rcases h.inv.start e he with h1 | h1
      · exact .inl h1
      · rcases (hm _).1 h1 with h2 | h2
        · refine .inl ?_
          have := extW_last (G := G) (room := room) ⟨0, [s]⟩ s e
          rw [h2, ht] at this
          cases this
          exact hk
        · exact .inr h2
    goes := fun u b hb e he => by
      rcases h.inv.goes u b hb e he with h1 | h1
      · exact .inl h1
      · rcases (hm _).1 h1 with h2 | h2
        · refine .inl ?_
          have := extW_last (G := G) (room := room) b u e
          rw [h2, ht] at this
          cases this
          exact hk
        · exact .inr h2 }
  kin := h.kin
  oin := fun y hy => h.oin y ((hm y).2 (.inr hy))
/-- The first one out is best, and what goes on from it is open. -/
theorem DijJ.take (hr : 0 ≤ room) {known : Int × Int → Option Wy} {opn rest : List Wy} (h : DijJ G s room known opn) {x : Wy} {t : Int × Int} (hm : ∀ y, y ∈ opn ↔ y = x ∨ y ∈ rest) (hmin : ∀ y ∈ opn, leW x y) (ht : x.ss.getLast? = some t) (hk : known t = none) {opn' : List Wy} (ho : ∀ y, y ∈ opn' ↔ y ∈ rest ∨ y ∈ (candsOf G room x t).map Prod.snd) :
    DijJ G s room (fun u => if u = t then some x else known u) opn' := by
  have hx : x ∈ opn := (hm x).2 (.inl rfl)
  have hb := h.inv.first hr hx hmin ht hk
  obtain ⟨x0, u0, e0, hx0, hxw, hxl, hxe, hxn, hxk⟩ := h.oin x hx
  have ht0 : t = stepOf e0 := by
    have := extW_last (G := G) (room := room) x0 u0 e0
    rw [← hx0, ht] at this
    cases this
    rfl
  have htail : x.ss.tail = x0.ss.tail ++ [t] := by rw [hx0, extW_tail _ _ _ hxw.pos, ht0]
  have hkin : x.ss.tail.Nodup ∧ ∀ v ∈ x.ss.tail, (if v = t then some x else known v) ≠ none := by
    rw [htail]
    constructor
    · rw [List.nodup_append]
      refine ⟨hxn, by simp, ?_⟩
      intro a ha b hb hab
      have : b = t := by simpa using hb
      subst this
      subst hab
      exact hxk _ ha hk
    · intro v hv
      split
      · simp
      · rename_i hne
        rcases List.mem_append.1 hv with hv | hv
        · exact hxk v hv
        · exact absurd (by simpa using hv) hne
  refine ⟨⟨?_, ?_, ?_, ?_⟩, ?_, ?_⟩
  · intro u b hu
    by_cases e : u = t
    · rw [if_pos e] at hu
      cases hu
      subst e
      exact hb
    · rw [if_neg e] at hu
      exact h.inv.best u b hu
  · intro y hy
    rcases (ho y).1 hy with h1 | h1
    · exact h.inv.way y ((hm y).2 (.inr h1))
    · simp only [candsOf, List.map_map, List.mem_map, Function.comp] at h1
      obtain ⟨e, he, rfl⟩ := h1
      exact ⟨_, hb.1.step he⟩
  · intro e he
    by_cases hs : stepOf e = t
    · left; rw [if_pos hs]; simp
    · rw [if_neg hs]
      rcases h.inv.start e he with h1 | h1
      · exact .inl h1
      · rcases (hm _).1 h1 with h2 | h2
        · exfalso
          have := extW_last (G := G) (room := room) ⟨0, [s]⟩ s e
          rw [h2, ht] at this
          cases this
          exact hs rfl
        · exact .inr ((ho _).2 (.inl h2))
  · intro u b hu e he
    by_cases hs : stepOf e = t
    · left; rw [if_pos hs]; simp
    · rw [if_neg hs]
      by_cases hut : u = t
      · rw [if_pos hut] at hu
        cases hu
        subst hut
        right
        refine (ho _).2 (.inr ?_)
        simp only [candsOf, List.map_map, List.mem_map, Function.comp]
        exact ⟨e, he, rfl⟩
      · rw [if_neg hut] at hu
        rcases h.inv.goes u b hu e he with h1 | h1
        · exact .inl h1
        · rcases (hm _).1 h1 with h2 | h2
          · exfalso
            have := extW_last (G := G) (room := room) b u e
            rw [h2, ht] at this
            cases this
            exact hs rfl
          · exact .inr ((ho _).2 (.inl h2))
  · intro u b hu
    by_cases e : u = t
    · rw [if_pos e] at hu
      cases hu
      exact hkin
    · rw [if_neg e] at hu
      obtain ⟨h1, h2⟩ := h.kin u b hu
      refine ⟨h1, fun v hv => ?_⟩
      split
      · simp
      · exact h2 v hv
  · intro y hy
    rcases (ho y).1 hy with h1 | h1
    · obtain ⟨x', u, e, h2, h3, h4, h5, h6, h7⟩ := h.oin y ((hm y).2 (.inr h1))
      refine ⟨x', u, e, h2, h3, h4, h5, h6, fun v hv => ?_⟩
      split
      · simp
      · exact h7 v hv
    · simp only [candsOf, List.map_map, List.mem_map, Function.comp] at h1
      obtain ⟨e, he, rfl⟩ := h1
      exact ⟨x, t, e, rfl, hb.1.way, ht, he, hkin.1, hkin.2⟩
end
end Go.Proofs.YtijdigdcmjdooaaGreat

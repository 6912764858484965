/- A drive is a way: plain. Own work. -/
import Derived.Test.YtldafgbhjpfboaaGreatMxAV
import Derived.Test.YtldafgbhjpfboaaGreatMxAN
import Derived.Test.YtldafgbhjpfboaaGreatBeB
import Derived.OrdersHeld
import Derived.RegionTactic
namespace Go.Proofs.YtldafgbhjpfboaaGreat
set_option maxHeartbeats 1000000

theorem over_mem {N : Nt} {xs : List Int} (hr : netOk N = (0, 0)) (hl : liesP N.jts xs = true) {e : Int × Int} {j i : Nat} (hj : j < N.jts.length) (hx : j < xs.length) (hat : At N.jts e j i) (hc : (overP N.jts[j] e i xs[j]).2 = 0) : (overP N.jts[j] e i xs[j]).1 ∈ nxP N e := by
  have hB3 : jb3 N.pcs.length N.jts[j] = false := by rw [← jtBad3_jb3 hj]; exact (right_facts hr).2.2.1 j hj
  obtain ⟨⟨hk1, hk4⟩, hkl⟩ := jb3_len hB3
  rw [nx_at hr hat hj]
  obtain ⟨_, hil, _⟩ := hat
  have hlie : lieOk N.jts[j] xs[j] = true := by
    cases hbad : lieOk N.jts[j] xs[j]
    · rw [liesP_bad hj hx hbad] at hl; simp at hl
    · rfl
  have hx02 : 0 ≤ xs[j] ∧ xs[j] ≤ 2 := by simp only [lieOk, inR, Bool.and_eq_true, decide_eq_true_eq] at hlie; omega
  unfold overP at hc ⊢
  by_cases k1 : N.jts[j].kind = 1
  · rw [if_pos k1] at hc; simp at hc
  rw [if_neg k1] at hc ⊢
  by_cases k2 : N.jts[j].kind = 3 ∧ xs[j] = 0
  · rw [if_pos k2] at hc; simp at hc
  rw [if_neg k2] at hc ⊢
  by_cases k3 : N.jts[j].kind = 3 ∧ i = 0
  · rw [if_pos k3]
    have hne : ¬ xs[j] = 0 := fun e => k2 ⟨k3.1, e⟩
    have hlt : xs[j].toNat < N.jts[j].ends.length := by omega
    simp only [List.getElem?_eq_getElem hlt, Option.getD_some]
    have h12 : xs[j].toNat = 1 ∨ xs[j].toNat = 2 := by omega
    unfold acr
    rw [if_neg (by omega), if_pos k3.1, if_pos k3.2, List.mem_append]
    rcases h12 with h | h
    · left
      simp only [h] at hlt ⊢
      simp [List.getElem?_eq_getElem hlt]
    · right
      simp only [h] at hlt ⊢
      simp [List.getElem?_eq_getElem hlt]
  rw [if_neg k3] at hc ⊢
  by_cases k4 : N.jts[j].kind = 3 ∧ (i : Int) ≠ xs[j]
  · rw [if_pos k4] at hc; simp at hc
  rw [if_neg k4]
  have hpos : 0 < (acr N.jts[j] i).length := by
    unfold acr
    by_cases q2 : N.jts[j].kind = 2
    · have : 1 - i < N.jts[j].ends.length := by omega
      simp [q2, this]
    · by_cases q3 : N.jts[j].kind = 3
      · have h0 : i ≠ 0 := fun e => k3 ⟨q3, e⟩
        have : 0 < N.jts[j].ends.length := by omega
        simp [q3, h0, this]
      · have q4 : N.jts[j].kind = 4 := by omega
        have : (if i = 0 then 1 else if i = 1 then 0 else if i = 2 then 3 else 2) < N.jts[j].ends.length := by split; omega; split; omega; split <;> omega
        simp [q4, this]
  simp only [List.getElem?_eq_getElem hpos, Option.getD_some]
  exact List.getElem_mem hpos
/-- Where a drive has come to, as a way. -/
def OnW (N : Nt) (hr : netOk N = (0, 0)) (s : Int × Int) (room : Int) (f q a wy : Int) : Prop :=
  ((q, wy) = s ∧ f + roomP N q a wy = room) ∨ ∃ y, ToW (grN N hr) s room (q, wy) y ∧ y.far + (lenAt N q - roomP N q a wy) = f
theorem room_go {N : Nt} {q a wy t : Int} (h : spotP N q a wy = true) : roomP N q (a + t * wy) wy = roomP N q a wy - t := by
  rcases spot_way h with rfl | rfl
  · unfold roomP; simp; omega
  · unfold roomP; simp; omega
theorem onW_go {N : Nt} {hr : netOk N = (0, 0)} {s : Int × Int} {room f q a wy t : Int} (hs : spotP N q a wy = true) (h : OnW N hr s room f q a wy) : OnW N hr s room (f + t) q (a + t * wy) wy := by
  unfold OnW
  rw [room_go hs]
  rcases h with ⟨h1, h2⟩ | ⟨y, h1, h2⟩
  · exact .inl ⟨h1, by omega⟩
  · exact .inr ⟨y, h1, by omega⟩
theorem onW_over {N : Nt} {hr : netOk N = (0, 0)} {s : Int × Int} {room f q a wy : Int} (h0 : roomP N q a wy = 0) (h : OnW N hr s room f q a wy) {e : Int × Int} (he : e ∈ nxP N (headP q wy)) : OnW N hr s room f (enterP N e).1 (enterP N e).2.1 (enterP N e).2.2 := by
  have hst := enter_step (N := N) (e := e)
  have hrm : roomP N (enterP N e).1 (enterP N e).2.1 (enterP N e).2.2 = lenAt N e.1 := by
    unfold enterP roomP
    split <;> simp
  have hq : (enterP N e).1 = e.1 := by unfold enterP; split <;> rfl
  have he' : e ∈ (grN N hr).nx (headP q wy) := he
  right
  rcases h with ⟨h1, h2⟩ | ⟨y, h1, h2⟩
  · subst h1
    refine ⟨extW (grN N hr) room ⟨0, [(q, wy)]⟩ (q, wy) e, ?_, ?_⟩
    · rw [hst]
      exact ToW.first he'
    · rw [hrm, hq]
      have hcst : costW (grN N hr) room ⟨0, [(q, wy)]⟩ (q, wy) = room := by simp [costW]
      show 0 + costW (grN N hr) room ⟨0, [(q, wy)]⟩ (q, wy) + _ = f
      rw [hcst]
      omega
  · refine ⟨extW (grN N hr) room y (q, wy) e, ?_, ?_⟩
    · rw [hst]
      exact h1.step he'
    · rw [hrm, hq]
      show y.far + costW (grN N hr) room y (q, wy) + _ = f
      unfold costW
      have h3 := h1.two
      rw [if_neg (by omega)]
      show y.far + lenAt N q + _ = f
      omega
theorem drive_onW {N : Nt} {xs : List Int} {far : Int} (hr : netOk N = (0, 0)) (hl : liesP N.jts xs = true) {s : Int × Int} {room f q a wy : Int} {ov : Nat} {ps : List (Int × Int × Int)} {r : DRes} (h : DriveR N xs far f q a wy ov ps r) : spotP N q a wy = true → OnW N hr s room f q a wy → r.code = 0 → OnW N hr s room r.far r.q r.at' r.way ∧ spotP N r.q r.at' r.way = true := by
  induction h with
  | done h => exact fun hs ho _ => ⟨ho, hs⟩
  | stop hj hx h hrm hat hc => exact fun _ _ h0 => absurd h0 hc
  | many hj hx h hrm hat hc ho => exact fun _ _ h0 => by cases h0
  | over hj hx h hrm hat hc ho n ih => exact fun hs hon h0 => ih (enterP_ok hr (overP_ok hr hl hj hx hat hc)) (onW_over hrm hon (over_mem hr hl hj hx hat hc)) h0
  | @go f q a wy ov ps r h hrm n ih =>
    intro hs hon h0
    refine ih ?_ (onW_go hs hon) h0
    have hr0 : 0 ≤ roomP N q a wy := by
      have h' := hs
      simp only [spotP, inR, Bool.and_eq_true, decide_eq_true_eq] at h'
      unfold roomP
      split <;> omega
    refine spot_go hs ?_ ?_
    · unfold stepP; split <;> omega
    · unfold stepP; split <;> omega
theorem drive_far {N : Nt} {xs : List Int} {far f q a wy : Int} {ov : Nat} {ps : List (Int × Int × Int)} {r : DRes} (h : DriveR N xs far f q a wy ov ps r) : f ≤ far → r.code = 0 → r.far = far := by
  induction h with
  | done h => exact fun hf _ => by dsimp only; omega
  | stop hj hx h hrm hat hc => exact fun _ h0 => absurd h0 hc
  | many hj hx h hrm hat hc ho => exact fun _ h0 => by cases h0
  | over hj hx h hrm hat hc ho n ih => exact ih
  | go h hrm n ih =>
    intro hf h0
    refine ih ?_ h0
    unfold stepP
    split <;> omega
end Go.Proofs.YtldafgbhjpfboaaGreat

/- Ways turned round: plain. Own work. -/
namespace Go.Proofs.YtldafgbhjpfboaaGreat
set_option maxHeartbeats 1000000

/-- What lies behind an end lies behind it from there, too. -/
theorem acr_back {N : Nt} (hr : netOk N = (0, 0)) {h e : Int × Int} {j i : Nat} (hat : At N.jts h j i) (hj : j < N.jts.length) (he : e ∈ acr N.jts[j] i) : h ∈ nxP N e := by
  have hB3 : jb3 N.pcs.length N.jts[j] = false := by rw [← jtBad3_jb3 hj]; exact (right_facts hr).2.2.1 j hj
  obtain ⟨⟨hk1, hk4⟩, hkl⟩ := jb3_len hB3
  obtain ⟨_, hil, hih⟩ := hat
  have key : ∀ i' (hi' : i' < N.jts[j].ends.length), N.jts[j].ends[i'] = e → h ∈ acr N.jts[j] i' → h ∈ nxP N e := fun i' hi' e1 e2 => by
    rw [nx_at hr (e := e) (j := j) (i := i') ⟨hj, hi', e1⟩ hj]
    exact e2
  unfold acr at he
  by_cases k2 : N.jts[j].kind = 2
  · rw [if_pos k2] at he
    have hl : N.jts[j].ends.length = 2 := by omega
    simp only [Option.mem_toList, List.getElem?_eq_some_iff] at he
    obtain ⟨hlt, he⟩ := he
    refine key (1 - i) hlt he ?_
    unfold acr
    rw [if_pos k2]
    simp only [Option.mem_toList, List.getElem?_eq_some_iff]
    have e3 : 1 - (1 - i) = i := by omega
    simp only [e3]
    exact ⟨hil, hih⟩
  · rw [if_neg k2] at he
    by_cases k3 : N.jts[j].kind = 3
    · rw [if_pos k3] at he
      have hl : N.jts[j].ends.length = 3 := by omega
      by_cases hi0 : i = 0
      · rw [if_pos hi0, List.mem_append] at he
        simp only [Option.mem_toList, List.getElem?_eq_some_iff] at he
        subst hi0
        rcases he with ⟨hlt, he⟩ | ⟨hlt, he⟩
        · refine key 1 hlt he ?_
          unfold acr
          rw [if_neg k2, if_pos k3, if_neg (by omega)]
          simp only [Option.mem_toList, List.getElem?_eq_some_iff]
          exact ⟨hil, hih⟩
        · refine key 2 hlt he ?_
          unfold acr
          rw [if_neg k2, if_pos k3, if_neg (by omega)]
          simp only [Option.mem_toList, List.getElem?_eq_some_iff]
          exact ⟨hil, hih⟩
      · rw [if_neg hi0] at he
        simp only [Option.mem_toList, List.getElem?_eq_some_iff] at he
        obtain ⟨hlt, he⟩ := he
        refine key 0 hlt he ?_
        unfold acr
        rw [if_neg k2, if_pos k3, if_pos rfl, List.mem_append]
        simp only [Option.mem_toList, List.getElem?_eq_some_iff]
        have h12 : i = 1 ∨ i = 2 := by omega
        rcases h12 with rfl | rfl
        · exact .inl ⟨hil, hih⟩
        · exact .inr ⟨hil, hih⟩
    · rw [if_neg k3] at he
      by_cases k4 : N.jts[j].kind = 4
      · rw [if_pos k4] at he
        have hl : N.jts[j].ends.length = 4 := by omega
        simp only [Option.mem_toList, List.getElem?_eq_some_iff] at he
        obtain ⟨hlt, he⟩ := he
        refine key _ hlt he ?_
        unfold acr
        rw [if_neg k2, if_neg k3, if_pos k4]
        simp only [Option.mem_toList, List.getElem?_eq_some_iff]
        have e3 : (if (if i = 0 then 1 else if i = 1 then 0 else if i = 2 then 3 else 2) = 0 then 1 else if (if i = 0 then 1 else if i = 1 then 0 else if i = 2 then 3 else 2) = 1 then 0 else if (if i = 0 then 1 else if i = 1 then 0 else if i = 2 then 3 else 2) = 2 then 3 else 2) = i := by
          have h4 : i = 0 ∨ i = 1 ∨ i = 2 ∨ i = 3 := by omega
          rcases h4 with rfl | rfl | rfl | rfl <;> rfl
        simp only [e3]
        exact ⟨hil, hih⟩
      · rw [if_neg k4] at he
        simp at he
theorem nx_back {N : Nt} (hr : netOk N = (0, 0)) {h e : Int × Int} (he : e ∈ nxP N h) (hok : endOk N.pcs.length h = true) : h ∈ nxP N e := by
  obtain ⟨j, i, hat⟩ := at_of_uses (js := N.jts) (e := h) (by rw [uses_right hr hok]; exact Nat.le_refl _)
  have hj := hat.1
  rw [nx_at hr hat hj] at he
  exact acr_back hr hat hj he
/-- Over one joint or more, and how long the pieces between are. -/
inductive Rch (G : Gr) (s : Int × Int) : Int × Int → Int → Prop
  | one {e : Int × Int} (he : e ∈ G.nx (headP s.1 s.2)) : Rch G s (stepOf e) 0
  | more {u e : Int × Int} {c : Int} (h : Rch G s u c) (he : e ∈ G.nx (headP u.1 u.2)) : Rch G s (stepOf e) (c + G.len u.1)
theorem rch_of {G : Gr} {s : Int × Int} {room : Int} {y : Wy} (h : WayR G s room y) : ∀ {t}, ToW G s room t y → Rch G s t (y.far - room) := by
  induction h with
  | base => exact fun h => by have := h.two; simp at this
  | @more y u e hy hu he ih =>
    intro t ht
    have hl := ht.last
    rw [extW_last] at hl
    obtain rfl := Option.some.inj hl
    by_cases h1 : y.ss.length = 1
    · have hb : y = ⟨0, [s]⟩ ∧ u = s := by
        cases hy with
        | base => exact ⟨rfl, by simpa using hu.symm⟩
        | more h' _ _ =>
          have := h'.pos
          rw [extW_len] at h1
          omega
      obtain ⟨rfl, rfl⟩ := hb
      have e0 : (extW G room ⟨0, [u]⟩ u e).far - room = 0 := by
        have hcst : costW G room ⟨0, [u]⟩ u = room := by simp [costW]
        show 0 + costW G room ⟨0, [u]⟩ u - room = 0
        rw [hcst]
        omega
      rw [e0]
      exact .one he
    · have hp := hy.pos
      have hr := ih (t := u) ⟨hy, hu, by omega⟩
      have e0 : (extW G room y u e).far - room = y.far - room + G.len u.1 := by
        show y.far + costW G room y u - room = _
        unfold costW
        rw [if_neg h1]
        omega
      rw [e0]
      exact .more hr he
theorem of_rch {G : Gr} {s : Int × Int} {room : Int} {t : Int × Int} {c : Int} (h : Rch G s t c) : ∃ y, ToW G s room t y ∧ y.far = room + c := by
  induction h with
  | one he =>
    refine ⟨_, ToW.first he, ?_⟩
    have hcst : costW G room ⟨0, [s]⟩ s = room := by simp [costW]
    show 0 + costW G room ⟨0, [s]⟩ s = _
    rw [hcst]
    omega
  | @more u e c h he ih =>
    obtain ⟨y, hy, hf⟩ := ih
    refine ⟨_, hy.step he, ?_⟩
    show y.far + costW G room y u = _
    unfold costW
    have := hy.two
    rw [if_neg (by omega)]
    omega
theorem Rch.front {G : Gr} {v e : Int × Int} (he : e ∈ G.nx (headP v.1 v.2)) {t : Int × Int} {c : Int} (h : Rch G (stepOf e) t c) : Rch G v t (G.len e.1 + c) := by
  induction h with
  | one h' =>
    have h2 := Rch.more (Rch.one he) h'
    have e1 : (0 : Int) + G.len (stepOf e).1 = G.len e.1 + 0 := by simp [stepOf]
    rw [← e1]
    exact h2
  | more h h' ih =>
    rw [← Int.add_assoc]
    exact .more ih h'
def flipS (s : Int × Int) : Int × Int := (s.1, -s.2)
theorem step_back {s : Int × Int} (h : s.2 = 1 ∨ s.2 = -1) : stepOf (headP s.1 s.2) = flipS s := by
  unfold stepOf headP flipS
  rcases h with h | h <;> simp [h]
theorem head_back' {n : Nat} {e : Int × Int} (h : endOk n e = true) : headP (flipS (stepOf e)).1 (flipS (stepOf e)).2 = e := by
  simp only [endOk, inR, Bool.and_eq_true, decide_eq_true_eq] at h
  unfold flipS stepOf headP
  dsimp only
  by_cases h0 : e.2 = 0
  · rw [if_pos h0, if_neg (by omega)]; exact Prod.ext rfl h0.symm
  · rw [if_neg h0, if_pos (by omega)]; exact Prod.ext rfl (by dsimp only; omega)
theorem rch_back {N : Nt} (hr : netOk N = (0, 0)) {s t : Int × Int} {c : Int} (h : Rch (grN N hr) s t c) (hs : stepOk N.pcs.length s = true) : Rch (grN N hr) (flipS t) (flipS s) c ∧ stepOk N.pcs.length t = true := by
  have hok : ∀ {e : Int × Int}, endOk N.pcs.length e = true → stepOk N.pcs.length (stepOf e) = true := fun {e} he => by
    obtain ⟨⟨h1, h2⟩, h3⟩ := stepOf_ok he
    simp only [stepOk, inR, Bool.and_eq_true, decide_eq_true_eq, Bool.or_eq_true, beq_iff_eq]
    omega
  have hwy : ∀ {u : Int × Int}, stepOk N.pcs.length u = true → u.2 = 1 ∨ u.2 = -1 := fun {u} hu => by
    simp only [stepOk, inR, Bool.and_eq_true, decide_eq_true_eq, Bool.or_eq_true, beq_iff_eq] at hu
    exact hu.2
  induction h with
  | @one e he =>
    have hE : endOk N.pcs.length e = true := (grN N hr).ok _ _ he
    refine ⟨?_, hok hE⟩
    rw [← step_back (hwy hs)]
    refine .one ?_
    rw [head_back' hE]
    exact nx_back hr he (stepOk_ends hs).1
  | @more u e c h he ih =>
    obtain ⟨ih1, hu⟩ := ih
    have hE : endOk N.pcs.length e = true := (grN N hr).ok _ _ he
    refine ⟨?_, hok hE⟩
    have hb : headP u.1 u.2 ∈ (grN N hr).nx (headP (flipS (stepOf e)).1 (flipS (stepOf e)).2) := by
      rw [head_back' hE]
      exact nx_back hr he (stepOk_ends hu).1
    rw [← step_back (hwy hu)] at ih1
    have h2 := Rch.front hb ih1
    have e1 : (headP u.1 u.2).1 = u.1 := by unfold headP; split <;> rfl
    rw [e1, Int.add_comm] at h2
    exact h2
/-- The best way turned round is as long, but for the two rooms. -/
theorem best_back {N : Nt} (hr : netOk N = (0, 0)) {s t : Int × Int} {room room' : Int} (h0' : 0 ≤ room') (hs : stepOk N.pcs.length s = true) {y : Wy} (h : bestO (grN N hr) s room t = some y) : ∃ y', bestO (grN N hr) (flipS t) room' (flipS s) = some y' ∧ y'.far - room' ≤ y.far - room := by
  have hw := bestO_way h
  have hR := (rch_back hr (rch_of hw.way hw) hs).1
  obtain ⟨y1, hy1, hf1⟩ := of_rch (room := room') hR
  cases hb : bestO (grN N hr) (flipS t) room' (flipS s) with
  | none =>
    exact absurd hy1 (bestO_none' h0' hb y1)
  | some y' =>
    refine ⟨y', rfl, ?_⟩
    have hle := bestO_le hb hy1
    have := le_far hle
    omega
end Go.Proofs.YtldafgbhjpfboaaGreat

/- What Shortest answers, no drive is sooner, there and back: plain. Own work. -/
namespace Go.Proofs.YtldafgbhjpfboaaGreat
set_option maxHeartbeats 1000000

/-- The best way from a spot to another one. -/
noncomputable def shortP (N : Nt) (hr : netOk N = (0, 0)) (q a wy q' a' wy' : Int) : Option Wy :=
  if (q, wy) = (q', wy') ∧ 0 ≤ (a' - a) * wy then some ⟨(a' - a) * wy, [(q, wy)]⟩
  else (bestO (grN N hr) (q, wy) (roomP N q a wy) (q', wy')).map fun y => ⟨y.far + (lenAt N q' - roomP N q' a' wy'), y.ss⟩
theorem room_bd {N : Nt} {q a wy : Int} (h : spotP N q a wy = true) : 0 ≤ roomP N q a wy ∧ roomP N q a wy ≤ lenAt N q := by
  simp only [spotP, inR, Bool.and_eq_true, decide_eq_true_eq] at h
  unfold roomP
  split <;> omega
theorem room_diff {N : Nt} {q a a' wy : Int} (h : wy = 1 ∨ wy = -1) : roomP N q a wy - roomP N q a' wy = (a' - a) * wy := by
  unfold roomP
  rcases h with rfl | rfl
  · simp; omega
  · simp; omega
theorem room_flip {N : Nt} {q a wy : Int} (h : wy = 1 ∨ wy = -1) : roomP N q a (-wy) = lenAt N q - roomP N q a wy := by
  unfold roomP
  rcases h with rfl | rfl
  · rw [if_neg (by omega), if_pos rfl]; omega
  · rw [if_pos (by omega), if_neg (by omega)]
theorem spot_step {N : Nt} {q a wy : Int} (h : spotP N q a wy = true) : stepOk N.pcs.length (q, wy) = true := by
  simp only [spotP, inR, Bool.and_eq_true, decide_eq_true_eq, Bool.or_eq_true, beq_iff_eq] at h
  simp only [stepOk, inR, Bool.and_eq_true, decide_eq_true_eq, Bool.or_eq_true, beq_iff_eq]
  omega
theorem spot_flip {N : Nt} {q a wy : Int} (h : spotP N q a wy = true) : spotP N q a (-wy) = true := by
  simp only [spotP, inR, Bool.and_eq_true, decide_eq_true_eq, Bool.or_eq_true, beq_iff_eq] at h ⊢
  omega
theorem short_le {N : Nt} {hr : netOk N = (0, 0)} {q a wy q' a' wy' f : Int} (hs : spotP N q a wy = true) (hs' : spotP N q' a' wy' = true) (hf : 0 ≤ f) (h : OnW N hr (q, wy) (roomP N q a wy) f q' a' wy') : ∃ y, shortP N hr q a wy q' a' wy' = some y ∧ y.far ≤ f := by
  have hw := spot_way hs
  have hb := room_bd hs
  have hb' := room_bd hs'
  unfold shortP
  rcases h with ⟨h1, h2⟩ | ⟨y, h1, h2⟩
  · obtain ⟨rfl, rfl⟩ := Prod.mk.inj h1
    have hd := room_diff (N := N) (q := q') (a := a) (a' := a') hw
    rw [if_pos ⟨rfl, by omega⟩]
    exact ⟨_, rfl, by dsimp only; omega⟩
  · by_cases hc : (q, wy) = (q', wy') ∧ 0 ≤ (a' - a) * wy
    · rw [if_pos hc]
      refine ⟨_, rfl, ?_⟩
      obtain ⟨rfl, rfl⟩ := Prod.mk.inj hc.1
      have hd := room_diff (N := N) (q := q) (a := a) (a' := a') hw
      have hl := h1.way.room_le hb.1 h1.two
      dsimp only
      omega
    · rw [if_neg hc]
      cases hbo : bestO (grN N hr) (q, wy) (roomP N q a wy) (q', wy') with
      | none => exact absurd h1 (bestO_none' hb.1 hbo y)
      | some b =>
        have hl := le_far (bestO_le hbo h1)
        exact ⟨_, rfl, by dsimp only; omega⟩
/-- No drive is sooner. -/
theorem drive_short {N : Nt} {xs : List Int} {q a wy far : Int} {t : DRes} (hr : netOk N = (0, 0)) (h : DriveA N xs q a wy far t) (h0 : t.code = 0) : ∃ y, shortP N hr q a wy t.q t.at' t.way = some y ∧ y.far ≤ far := by
  unfold DriveA at h
  split at h
  · rename_i hg
    obtain ⟨_, hl, hs, hf, _⟩ := good_all hg
    obtain ⟨r, hR, rfl⟩ := h
    dsimp only at h0 ⊢
    have hon : OnW N hr (q, wy) (roomP N q a wy) 0 q a wy := .inl ⟨rfl, by omega⟩
    obtain ⟨h1, h2⟩ := drive_onW hr hl hR hs hon h0
    rw [drive_far hR hf h0] at h1
    exact short_le hs h2 hf h1
  · subst h
    cases h0
theorem flip_flip (s : Int × Int) : flipS (flipS s) = s := by simp [flipS]
theorem best_same {N : Nt} (hr : netOk N = (0, 0)) {s t : Int × Int} {room room' : Int} (h0 : 0 ≤ room) (h0' : 0 ≤ room') (hs : stepOk N.pcs.length s = true) (ht : stepOk N.pcs.length t = true) : (bestO (grN N hr) (flipS t) room' (flipS s)).map (fun y => y.far - room') = (bestO (grN N hr) s room t).map (fun y => y.far - room) := by
  have hfl : ∀ {u : Int × Int}, stepOk N.pcs.length u = true → stepOk N.pcs.length (flipS u) = true := fun {u} hu => by
    show stepOk N.pcs.length (u.1, -u.2) = true
    simp only [stepOk, inR, Bool.and_eq_true, decide_eq_true_eq, Bool.or_eq_true, beq_iff_eq] at hu ⊢
    omega
  cases h1 : bestO (grN N hr) s room t with
  | some y =>
    obtain ⟨y', h2, h3⟩ := best_back hr (room' := room') h0' hs h1
    rw [h2]
    obtain ⟨y2, h4, h5⟩ := best_back hr (room' := room) h0 (hfl ht) h2
    rw [flip_flip, flip_flip, h1] at h4
    obtain rfl := Option.some.inj h4
    simp only [Option.map_some, Option.some.injEq]
    omega
  | none =>
    cases h2 : bestO (grN N hr) (flipS t) room' (flipS s) with
    | none => rfl
    | some y' =>
      obtain ⟨y2, h4, _⟩ := best_back hr (room' := room) h0 (hfl ht) h2
      rw [flip_flip, flip_flip, h1] at h4
      cases h4
/-- There and back are as long. -/
theorem short_turn {N : Nt} (hr : netOk N = (0, 0)) {q a wy q' a' wy' : Int} (hs : spotP N q a wy = true) (hs' : spotP N q' a' wy' = true) : (shortP N hr q' a' (-wy') q a (-wy)).map Wy.far = (shortP N hr q a wy q' a' wy').map Wy.far := by
  have hw := spot_way hs
  have hw' := spot_way hs'
  have hb := room_bd hs
  have hb' := room_bd hs'
  have hbf := room_bd (spot_flip hs')
  unfold shortP
  by_cases hc : (q, wy) = (q', wy') ∧ 0 ≤ (a' - a) * wy
  · obtain ⟨rfl, rfl⟩ := Prod.mk.inj hc.1
    have e1 : (a - a') * -wy = (a' - a) * wy := by rcases hw with rfl | rfl <;> omega
    rw [if_pos hc, if_pos ⟨rfl, by rw [e1]; exact hc.2⟩]
    simp only [Option.map_some, e1]
  · have hc' : ¬ ((q', -wy') = (q, -wy) ∧ 0 ≤ (a - a') * -wy') := by
      rintro ⟨h1, h2⟩
      obtain ⟨rfl, h3⟩ := Prod.mk.inj h1
      have : wy' = wy := by omega
      subst this
      refine hc ⟨rfl, ?_⟩
      rcases hw with rfl | rfl <;> omega
    rw [if_neg hc, if_neg hc']
    have hsm := best_same hr (s := (q, wy)) (t := (q', wy')) (room := roomP N q a wy) (room' := roomP N q' a' (-wy')) hb.1 hbf.1 (spot_step hs) (spot_step hs')
    have e1 := room_flip (N := N) (q := q') (a := a') hw'
    have e2 := room_flip (N := N) (q := q) (a := a) hw
    simp only [flipS] at hsm
    generalize bestO (grN N hr) (q', -wy') (roomP N q' a' (-wy')) (q, -wy) = B' at *
    generalize bestO (grN N hr) (q, wy) (roomP N q a wy) (q', wy') = B at *
    cases B with
    | none =>
      cases B' with
      | none => rfl
      | some y' => cases hsm
    | some y =>
      cases B' with
      | none => cases hsm
      | some y' =>
        simp only [Option.map_some, Option.some.injEq] at hsm ⊢
        rw [e2]
        omega
end Go.Proofs.YtldafgbhjpfboaaGreat

/- A trail's box that holds nothing yet. Own work. -/
namespace Go.Proofs.YtldafgbhjpfboaaGreat
open Go.RowKit Go.Sort
set_option maxHeartbeats 1000000

/-- A box of two that holds nothing yet. -/
def ZeroT (w : World) (b : Nat) : Prop := (w.cell? ⟨b, 0, none⟩ = some (.int .i64 0) ∧ w.cell? ⟨b, 1, none⟩ = some (.slice none 0 0)) ∧ (∀ o, w.frozen? ⟨b, o, none⟩ = false) ∧ ∀ cur fz, w.heap[b]? ≠ some (.cells cur 37 fz)
theorem ZeroT.later {w w' : World} {b : Nat} (h : ZeroT w b) (hb : Below w.heap.size w w') : ZeroT w' b := by
  obtain ⟨⟨h0, h1⟩, hf, hT⟩ := h
  exact ⟨⟨cell_later' hb h0, cell_later' hb h1⟩, fun o => by rw [hb.frozen (p := ⟨b, o, none⟩) (cell_lt h0)]; exact hf o, fun cur fz => by rw [hb.block b (cell_lt h0)]; exact hT cur fz⟩
theorem ZeroT.new (w : World) : ZeroT (w.alloc (.cells #[.int .i64 0, .slice none 0 0] 62)) w.heap.size := by
  refine ⟨⟨new_cell w _ _ 0 _ rfl, new_cell w _ _ 1 _ rfl⟩, fun o => by simp [go_sem], fun cur fz e => ?_⟩
  rw [heap_alloc_new] at e
  simp at e
theorem zeroT_of {w w1 : World} (hb : Below (w.alloc (.cells #[.int .i64 0, .slice none 0 0] 62)).drew.heap.size (w.alloc (.cells #[.int .i64 0, .slice none 0 0] 62)).drew w1) : ZeroT w1 w.heap.size :=
  (ZeroT.new w).later (((Below.refl _ _).drew).trans hb)
theorem zeroT_of' {w w1 : World} (hb : Below (w.alloc (.cells #[.int .i64 0, .slice none 0 0] 62)).heap.size (w.alloc (.cells #[.int .i64 0, .slice none 0 0] 62)) w1) : ZeroT w1 w.heap.size :=
  (ZeroT.new w).later hb
theorem inT_put {w : World} {b : Nat} (h : ZeroT w b) (x y : Value) : ((w.setCell ⟨b, 0, none⟩ x).setCell ⟨b, 1, none⟩ y).cell? ⟨b, 1, none⟩ = some y := by
  obtain ⟨⟨h0, h1⟩, hf⟩ := h
  simp [go_sem, h1]
theorem ZeroT.below {W wT : World} {b : Nat} (_ : ZeroT wT b) (h : Below W.heap.size W wT) (hb : W.heap.size ≤ b) (x y : Value) : Below W.heap.size W ((wT.setCell ⟨b, 0, none⟩ x).setCell ⟨b, 1, none⟩ y) := (h.setCell hb x).setCell hb y
end Go.Proofs.YtldafgbhjpfboaaGreat

/- A region whose last operation writes what an earlier one reads. Own work. -/
namespace Go.Proofs.YtldafgbhjpfboaaGreat
open Go
set_option maxHeartbeats 1000000
section
variable {P : Program} {ops : Array Oper} {Q : Exit → Act → World → Prop} {md : Region.Mode} {S : World → Prop} {k : Nat}
/-- Whatever order is picked; S holds behind every operation but number k. -/
def wpAnyK (P : Program) (md : Region.Mode) (ops : Array Oper) (Q : Exit → Act → World → Prop) (S : World → Prop) (k : Nat) : Nat → Array Bool → Act → World → Prop
  | 0, listed, a, w => Region.ready md ops listed = [] ∧ Q .normal a w
  | fuel + 1, listed, a, w =>
    (Region.ready md ops listed = [] → Q .normal a w) ∧
    ∀ i ∈ Region.ready md ops listed, wpOp P ops Q i (fun a' w' => (i ≠ k → S w') ∧ wpAnyK P md ops Q S k fuel (listed.setIfInBounds i true) a' w') a w
theorem wpAny_of_K : ∀ (fuel : Nat) (listed : Array Bool) (a : Act) (w : World), wpAnyK P md ops Q S k fuel listed a w → wpAny P md ops Q fuel listed a w
  | 0, _, _, _, h => h
  | fuel + 1, _, _, _, h => ⟨h.1, fun i hi => wpOp_mono (fun a' w' h' => wpAny_of_K fuel _ a' w' h'.2) (h.2 i hi)⟩
/-- An operation for which number k waits may be taken first. -/
theorem wpAnyK_first {i : Nat} {oi ok : Oper} {v : Value} (hi : ops[i]? = some oi) (hk : ops[k]? = some ok) (hdep : ∃ e ∈ ok.after, Region.binds md e = true ∧ e.on = i) (hik : i ≠ k) (hsel : ∀ (j : Nat) (o : Oper) cs b, ops[j]? = some o → o.op ≠ .select cs b)
    (hQ : ∀ c a w, Q (.panic c) (a.put oi.dst v) w → Q (.panic c) a w) :
    ∀ (fuel : Nat) (listed : Array Bool) (a : Act) (w : World),
      (∀ j oj, ops[j]? = some oj → j ≠ i → listed.getD j true = false → (∀ e ∈ oj.after, Region.binds md e = true → e.on ≠ i) → oi.apart ops oj = true) →
      i ∈ Region.ready md ops listed → YieldsIf P ops S oi v a → S w →
      wpAnyK P md ops Q S k fuel (listed.setIfInBounds i true) (a.put oi.dst v) w → wpAnyK P md ops Q S k (fuel + 1) listed a w := by
  intro fuel
  induction fuel with
  | zero =>
    intro listed a w _ hr hy hS H
    refine ⟨fun h => (by rw [h] at hr; cases hr), fun j hj => ?_⟩
    by_cases hji : j = i
    · subst hji; exact hy.wpOp hi hS ⟨fun _ => hS, H⟩
    · have h1 := ready_mono hj hji
      rw [H.1] at h1
      cases h1
  | succ fuel ih =>
    intro listed a w hfree hr hy hS H
    refine ⟨fun h => (by rw [h] at hr; cases hr), fun j hj => ?_⟩
    by_cases hji : j = i
    · subst hji; exact hy.wpOp hi hS ⟨fun _ => hS, H⟩
    · obtain ⟨hjun, oj, hoj, hall⟩ := mem_ready.1 hj
      have hnot : ∀ e ∈ oj.after, Region.binds md e = true → e.on ≠ i := fun e he hb heq => by
        have h1 := hall e he hb
        have h0 := (mem_ready.1 hr).1
        rw [heq] at h1
        rcases Nat.lt_or_ge i listed.size with h' | h'
        · simp [h'] at h0 h1
          rw [h0] at h1
          cases h1
        · simp [Array.getElem?_eq_none h'] at h1
      have hjk : j ≠ k := fun e => by
        subst e
        rw [hk] at hoj
        obtain rfl := Option.some.inj hoj
        obtain ⟨d, hd, hb, ho⟩ := hdep
        exact hnot d hd hb ho
      have h1 := H.2 j (ready_mono hj hji)
      have h2 := wpOp_putIf hoj (hfree j oj hoj hji hjun hnot) (fun cs b => hsel i oi cs b hi) (fun cs b => hsel j oj cs b hoj) hQ hy h1
      have hfree' : ∀ m om, ops[m]? = some om → m ≠ i → (listed.setIfInBounds j true).getD m true = false →
          (∀ e ∈ om.after, Region.binds md e = true → e.on ≠ i) → oi.apart ops om = true := fun m om hm hmi hun hno => by
        refine hfree m om hm hmi ?_ hno
        by_cases hjm : j = m
        · subst hjm; exact hjun
        · rw [getD_set_ne true hjm] at hun; exact hun
      refine wpOp_mono (fun a' w' h3 => ⟨fun _ => h3.2.1 hjk, ih (listed.setIfInBounds j true) a' w' hfree' (ready_mono hr (Ne.symm hji)) h3.1 (h3.2.1 hjk) ?_⟩) h2
      rw [Array.setIfInBounds_comm _ _ hji]
      exact h3.2.2
theorem wpAnyK_take {i : Nat} {oi ok : Oper} {v : Value} {fuel : Nat} {listed : Array Bool} {a : Act} {w : World} (hi : ops[i]? = some oi) (hk : ops[k]? = some ok) (hd : ok.after.any (fun e => Region.binds md e && e.on == i) = true) (hik : i ≠ k)
    (hs : Region.noSelect ops = true) (hf : Region.free md ops listed i = true) (hr : (Region.ready md ops listed).contains i = true)
    (hQ : ∀ c a w, Q (.panic c) (a.put oi.dst v) w → Q (.panic c) a w) (hy : YieldsIf P ops S oi v a) (hS : S w)
    (h : wpAnyK P md ops Q S k fuel (listed.setIfInBounds i true) (a.put oi.dst v) w) : wpAnyK P md ops Q S k (fuel + 1) listed a w :=
  wpAnyK_first hi hk (by
    rw [Array.any_eq_true] at hd
    obtain ⟨j, hj, hb⟩ := hd
    simp only [Bool.and_eq_true, beq_iff_eq] at hb
    exact ⟨ok.after[j], Array.getElem_mem hj, hb.1, hb.2⟩) hik (Region.noSelect_spec hs) hQ fuel listed a w (Region.free_spec hi hf) (by simpa using hr) hy hS h
/-- The one that may come up, not number k. -/
theorem wpAnyK_one {i : Nat} {o : Oper} {fuel : Nat} {listed : Array Bool} {a : Act} {w : World} (hr : Region.ready md ops listed = [i]) (ho : ops[i]? = some o)
    (h : ∀ K' : Act → World → Prop, Shut (∀ a w, S w → (S w → wpAnyK P md ops Q S k fuel (listed.setIfInBounds i true) a w) → K' a w) → if Region.wanted o (yielded ops a.tmps) = true then Oper.wp P o a w K' Q else K' (a.put o.dst undef) w) : wpAnyK P md ops Q S k (fuel + 1) listed a w := by
  refine ⟨fun h0 => (by rw [hr] at h0; cases h0), fun j hj => ?_⟩
  rw [hr, List.mem_singleton] at hj
  subst hj
  exact wpOp_step ho (fun K' hK => h K' (fun a w hS hW => hK a w ⟨fun _ => hS, hW hS⟩))
/-- Number k, the last. -/
theorem wpAnyK_last {o : Oper} {fuel : Nat} {listed : Array Bool} {a : Act} {w : World} (hr : Region.ready md ops listed = [k]) (ho : ops[k]? = some o) (he : Region.ready md ops (listed.setIfInBounds k true) = [])
    (h : ∀ K' : Act → World → Prop, Shut (∀ a w, Q .normal a w → K' a w) → if Region.wanted o (yielded ops a.tmps) = true then Oper.wp P o a w K' Q else K' (a.put o.dst undef) w) : wpAnyK P md ops Q S k (fuel + 1) listed a w := by
  refine ⟨fun h0 => (by rw [hr] at h0; cases h0), fun j hj => ?_⟩
  rw [hr, List.mem_singleton] at hj
  subst hj
  exact wpOp_step ho (fun K' hK => h K' (fun a w hq => hK a w ⟨fun hn => absurd rfl hn, by
    cases fuel with
    | zero => exact ⟨he, hq⟩
    | succ f => exact ⟨fun _ => hq, by rw [he]; simp⟩⟩))
theorem wp_region_K {id : Nat} {a : Act} {w : World} (hm : P.follows .mixedOrders = true) (h : wpAnyK P .any ops Q S k ops.size (Array.replicate ops.size false) a w.drew) : (Code.region id ops true).wp P Q a w :=
  wp_region_any hm (wpAny_of_K _ _ _ _ h)
end
end Go.Proofs.YtldafgbhjpfboaaGreat

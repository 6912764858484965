/- (layout).trails. Own work. -/
import Derived.Test.YtijdigdcmjdooaaGreatMxAZ
import Derived.Test.YtijdigdcmjdooaaGreatMxBA
import Derived.Test.YtijdigdcmjdooaaGreatMxBI
import Derived.Test.YtijdigdcmjdooaaGreatMxAU
import Derived.Laws.EntriesVeiled
namespace Go.Proofs.YtijdigdcmjdooaaGreat
open Go.RowKit Go.Sort
set_option maxHeartbeats 8000000
set_option maxRecDepth 100000

/-- What the map holds of a trail. -/
def trOf (i : It) : Tr := ⟨i.y.far, (match i.z with | some a => (a.block : Int) | none => -1), i.y.ss.length, i.c⟩
theorem trV_of {i : It} {b : Nat} (h : i.z = some ⟨b, 0, none⟩) : trV (trOf i) = .agg #[.int .i64 i.y.far, .slice i.z i.y.ss.length i.c] := by
  unfold trV trOf trA
  rw [h]
  simp
/-- The ways that go on from a spot, as they are laid. -/
theorem goW_start {G : Gr} {s : Int × Int} {room : Int} (L : List (Int × Int)) (h : G.nx (headP s.1 s.2) = L) : L.map (goW room [s]) = (candsOf G room ⟨0, [s]⟩ s).map Prod.snd := by
  subst h
  simp [candsOf, goW, extW, costW]
theorem goW_more {G : Gr} {room : Int} {x : Wy} {t : Int × Int} (L : List (Int × Int)) (h : G.nx (headP t.1 t.2) = L) (h2 : 2 ≤ x.ss.length) : L.map (goW (x.far + G.len t.1) x.ss) = (candsOf G room x t).map Prod.snd := by
  subst h
  have h1 : ¬ x.ss.length = 1 := by omega
  simp [candsOf, goW, extW, costW, h1]
/-- Known steps are few. -/
structure KnI (G : Gr) (known : Int × Int → Option It) (ks : List (Int × Int)) : Prop where
  nodup : ks.Nodup
  mem : ∀ t, t ∈ ks ↔ known t ≠ none
  ok : ∀ t ∈ ks, ∃ e, endOk G.n e = true ∧ t = stepOf e
theorem KnI.few {G : Gr} {known : Int × Int → Option It} {ks : List (Int × Int)} (h : KnI G known ks) : ks.length ≤ 2 * G.n := few_steps h.nodup h.ok
theorem KnI.add {G : Gr} {known : Int × Int → Option It} {ks : List (Int × Int)} (h : KnI G known ks) {t : Int × Int} (ht : known t = none) (hok : ∃ e, endOk G.n e = true ∧ t = stepOf e) (i : It) : KnI G (fun u => if u = t then some i else known u) (t :: ks) := by
  refine ⟨List.nodup_cons.2 ⟨fun hm => (h.mem t).1 hm ht, h.nodup⟩, fun u => ?_, fun u hu => ?_⟩
  · rw [List.mem_cons]
    by_cases e : u = t
    · simp [e]
    · simp only [e, false_or]
      exact h.mem u
  · rcases List.mem_cons.1 hu with e | hu
    · rw [e]; exact hok
    · exact h.ok u hu
/-- Behind a few blocks of the call's own. -/
structure TrB (w wr : World) (v0 v1 v2 : Value) (q at' wy : Int) : Prop where
  n0 : wr.cell? ⟨w.heap.size, 0, none⟩ = some v0
  n1 : wr.cell? ⟨w.heap.size, 1, none⟩ = some v1
  n2 : wr.cell? ⟨w.heap.size, 2, none⟩ = some v2
  s0 : wr.cell? ⟨w.heap.size + 1, 0, none⟩ = some (.int .i64 q)
  s1 : wr.cell? ⟨w.heap.size + 1, 1, none⟩ = some (.int .i64 at')
  s2 : wr.cell? ⟨w.heap.size + 1, 2, none⟩ = some (.int .i64 wy)
  below : Below w.heap.size w wr
theorem TrB.later {w w1 w2 : World} {v0 v1 v2 : Value} {q at' wy : Int} (h : TrB w w1 v0 v1 v2 q at' wy) (hb : Below w1.heap.size w1 w2) : TrB w w2 v0 v1 v2 q at' wy :=
  ⟨cell_later' hb h.n0, cell_later' hb h.n1, cell_later' hb h.n2, cell_later' hb h.s0, cell_later' hb h.s1, cell_later' hb h.s2, h.below.trans (hb.mono h.below.size)⟩
theorem TrB.kept {w w1 w2 : World} {v0 v1 v2 : Value} {q at' wy : Int} {B : Nat} {og : Option Nat} (h : TrB w w1 v0 v1 v2 q at' wy) (hk : Kept2 B og w1 w2) (hB : w.heap.size + 1 < B) (ho : ∀ g, og = some g → w.heap.size + 1 < g) : TrB w w2 v0 v1 v2 q at' wy := by
  have hne : ∀ b, b ≤ w.heap.size + 1 → some b ≠ og := fun b hb e => by have := ho b e.symm; omega
  exact ⟨hk.cell (by omega) (hne _ (by omega)) h.n0, hk.cell (by omega) (hne _ (by omega)) h.n1, hk.cell (by omega) (hne _ (by omega)) h.n2, hk.cell (by omega) (hne _ (by omega)) h.s0, hk.cell (by omega) (hne _ (by omega)) h.s1, hk.cell (by omega) (hne _ (by omega)) h.s2,
    ⟨hk.os.trans h.below.os, hk.tape.trans h.below.tape, hk.output.trans h.below.output, Nat.le_trans h.below.size hk.size, fun j hj => (hk.block j (Nat.lt_of_lt_of_le hj h.below.size) (by omega) (hne j (by omega))).trans (h.below.block j hj)⟩⟩
theorem own_lo {w : World} {B base n : Nat} {v : Value} {l : List It} (h : HpAt w B base v n l) : ∀ g, v.ownBlock = some g → base ≤ g := fun g e => (h.own.lt g e).1

theorem trs_of_own {w : World} {base : Nat} {v : Value} {l : List It} (h : w.ownsRow base 101 2 v l.length (itCells l)) : ∃ z c, v = .slice z l.length c ∧ TrsAt w z l ∧ (∀ b off, z = some ⟨b, off, none⟩ → base ≤ b ∧ b < w.heap.size) := by
  rcases id h.2 with ⟨rfl, h0⟩ | ⟨g, cap, cur, rfl, hb, hg, _⟩
  · exact ⟨none, 0, by rw [h0], fun k hk => by omega, fun b off e => by cases e⟩
  · refine ⟨_, cap, rfl, fun k hk => ?_, fun b off e => ?_⟩
    · obtain ⟨a1, a2⟩ := itCells_at l k hk
      refine ⟨g, 0, rfl, ?_, ?_⟩
      · rw [Nat.zero_add, h.cellAt _ (by omega)]; exact a1
      · rw [Nat.zero_add, h.cellAt _ (by omega)]; exact a2
    · have : g = b := by simp at e; exact e.1
      subst this
      exact h.lt g rfl
theorem map_len {l : List It} {L : List (Int × Int)} {f : Int × Int → Wy} (h : l.map It.y = L.map f) : L.length = l.length := by
  have := congrArg List.length h
  simpa using this.symm
theorem map_ss {l : List It} {L : List (Int × Int)} {far : Int} {ss : List (Int × Int)} (h : l.map It.y = L.map (goW far ss)) : ∀ i ∈ l, i.y.ss.length = ss.length + 1 := by
  intro i hi
  have hm : i.y ∈ l.map It.y := List.mem_map_of_mem hi
  rw [h] at hm
  obtain ⟨e, _, he⟩ := List.mem_map.1 hm
  rw [← he]
  simp [goW]
theorem one_step (w : World) (x y : Int) : EndsAt (w.alloc (.cells #[.int .i64 x, .int .i64 y] 132)) (some ⟨w.heap.size, 0, none⟩) [(x, y)] := by
  intro k hk
  have hk0 : k = 0 := by simpa using hk
  subst hk0
  exact ⟨_, 0, rfl, new_cell w _ _ 0 _ rfl, new_cell w _ _ 1 _ rfl⟩
theorem DijJ.cong {G : Gr} {s : Int × Int} {room : Int} {known : Int × Int → Option Wy} {o o' : List Wy} (h : DijJ G s room known o) (hm : ∀ y, y ∈ o' ↔ y ∈ o) : DijJ G s room known o' :=
  ⟨⟨h.inv.best, fun y hy => h.inv.way y ((hm y).1 hy), fun e he => (h.inv.start e he).imp id (fun hx => (hm _).2 hx), fun u b hb e he => (h.inv.goes u b hb e he).imp id (fun hx => (hm _).2 hx)⟩, h.kin, fun y hy => h.oin y ((hm y).1 hy)⟩
/-- Between two rounds of trails. -/
structure TrI (G : Gr) (s : Int × Int) (room : Int) (w wr : World) (v0 v1 v2 : Value) (q at' wy : Int) (B base mk : Nat) (v : Value) (nh : Nat) (l : List It) (known : Int × Int → Option It) (ks : List (Int × Int)) : Prop where
  hp : HpAt wr B base v nh l
  ok : HeapOk leI (itF l) nh
  pz : ∀ i ∈ l, ∃ b, i.z = some ⟨b, 0, none⟩
  km : KM wr mk ks.length (fun t => (known t).map trOf)
  tb : TrB w wr v0 v1 v2 q at' wy
  dj : DijJ G s room (fun t => (known t).map It.y) (l.map It.y)
  kn : KnI G known ks
  kr : ∀ t i, known t = some i → StRow wr i.z i.y.ss ∧ ∃ b, i.z = some ⟨b, 0, none⟩
  few : nh ≤ 2 + 2 * ks.length
def TrP (G : Gr) (s : Int × Int) (room : Int) (w wr : World) (v0 v1 v2 : Value) (q at' wy : Int) (B base mk gk : Nat) : Prop :=
  ∃ (v : Value) (nh : Nat) (l : List It) (known : Int × Int → Option It) (ks : List (Int × Int)), TrI G s room w wr v0 v1 v2 q at' wy B base mk v nh l known ks ∧ nh + 3 * (2 * G.n - ks.length) ≤ gk
theorem own_form {w : World} {B base n : Nat} {v : Value} {l : List It} (h : HpAt w B base v n l) : ∃ z c, v = .slice z n c := by
  rcases h.own.2 with ⟨rfl, h0⟩ | ⟨g, cap, cur, rfl, _⟩
  · exact ⟨none, 0, by rw [h0]⟩
  · exact ⟨_, cap, rfl⟩
theorem own_some {w : World} {B base n : Nat} {v : Value} {l : List It} (h : HpAt w B base v (n + 1) l) : ∃ g c, v = .slice (some ⟨g, 0, none⟩) (n + 1) c := by
  rcases h.own.2 with ⟨_, h0⟩ | ⟨g, cap, cur, hv, _⟩
  · omega
  · exact ⟨g, cap, hv⟩
theorem last_at {ss : List (Int × Int)} {t : Int × Int} (h : ss.getLast? = some t) (hl : 0 < ss.length) : ss[ss.length - 1]'(by omega) = t := by
  rw [List.getLast?_eq_getElem?, List.getElem?_eq_getElem (by omega)] at h
  exact Option.some.inj h
theorem step_wf {n : Nat} {t e : Int × Int} (hn : n ≤ 100) (he : endOk n e = true) (ht : t = stepOf e) : Wf2 t := by
  obtain ⟨⟨h1, h2⟩, h3⟩ := stepOf_ok he
  rw [← ht] at h1 h2 h3
  have w : ∀ x : Int, -1000 ≤ x → x ≤ 1000 → (Lit.int .i64 x).wf = true := fun x a b => by
    simp only [Lit.wf, IntKind.min, IntKind.max, IntKind.bits, IntKind.signed, Bool.and_eq_true, decide_eq_true_eq]
    simp
    omega
  exact ⟨w _ (by omega) (by omega), w _ (by omega) (by omega)⟩
theorem map_pop {l l' : List It} {x : It} (h : ∀ y, y ∈ l ↔ y = x ∨ y ∈ l') (y : Wy) : y ∈ l.map It.y ↔ y = x.y ∨ y ∈ l'.map It.y := by
  simp only [List.mem_map]
  constructor
  · rintro ⟨i, hi, rfl⟩
    rcases (h i).1 hi with rfl | hi
    · exact .inl rfl
    · exact .inr ⟨i, hi, rfl⟩
  · rintro (rfl | ⟨i, hi, rfl⟩)
    · exact ⟨x, (h x).2 (.inl rfl), rfl⟩
    · exact ⟨i, (h i).2 (.inr hi), rfl⟩
theorem HpAt.off {w w' : World} {B base n mk : Nat} {v : Value} {l : List It} (h : HpAt w B base v n l) (hk : Kept2 mk none w w') (hB : mk ≠ B) (ho : some mk ≠ v.ownBlock) (ht : ∀ cur fz, w.heap[mk]? ≠ some (.cells cur 132 fz)) : HpAt w' B base v n l := by
  have eB : w'.heap[B]? = w.heap[B]? := hk.block B (cell_lt h.c0) (fun e => hB e.symm) (by simp)
  refine ⟨h.len, ?_, ?_, ?_, ⟨h.own.1, ?_⟩, h.lo, fun i hi => ⟨(h.st i hi).1.kept2 hk ht (fun g e => by cases e), (h.st i hi).2⟩, h.few, fun cur fz e => h.tB cur fz (by rw [← eB]; exact e)⟩
  · rw [World.cell?_of_block (a := ⟨B, 0, none⟩) eB]; exact h.c0
  · rw [World.cell?_of_block (a := ⟨B, 1, none⟩) eB]; exact h.c1
  · rw [World.frozen?_of_block (a := ⟨B, 1, none⟩) eB]; exact h.f1
  · rcases h.own.2 with h' | ⟨g, cap, cur, hv, hbg, hg, rest⟩
    · exact .inl h'
    · refine .inr ⟨g, cap, cur, hv, hbg, ?_, rest⟩
      have hgm : g ≠ mk := fun e => ho (by rw [hv, ← e]; rfl)
      have hlt : g < w.heap.size := by
        rcases Nat.lt_or_ge g w.heap.size with h | h
        · exact h
        · rw [Array.getElem?_eq_none h] at hg; cases hg
      rw [hk.block g hlt hgm (by simp)]
      exact hg
theorem KM.cells {w : World} {b n : Nat} {g : Int × Int → Option Tr} (h : KM w b n g) (T : TypeId) : ∀ cur fz, w.heap[b]? ≠ some (.cells cur T fz) := by
  obtain ⟨D, ⟨es, clock, hb, _⟩, _⟩ := h
  intro cur fz e
  rw [hb] at e
  cases e
theorem kept_of_grown {w w' : World} {mk : Nat} (h : w.grownBy w' (some mk)) : Kept2 mk none w w' := ⟨h.os, h.tape, h.output, h.size, fun k hk hB _ => h.block k hk (some_ne hB)⟩
theorem head_back {n : Nat} {e : Int × Int} (h : endOk n e = true) : headP (stepOf e).1 (-(stepOf e).2) = e := by
  simp only [endOk, inR, Bool.and_eq_true, decide_eq_true_eq] at h
  unfold stepOf headP
  dsimp only
  by_cases h0 : e.2 = 0
  · rw [if_pos h0, if_neg (by omega)]; exact Prod.ext rfl h0.symm
  · rw [if_neg h0, if_pos (by omega)]; exact Prod.ext rfl (by dsimp only; omega)
theorem enter_room {N : Nt} {e : Int × Int} : roomP N (enterP N e).1 (enterP N e).2.1 (enterP N e).2.2 = lenAt N e.1 := by
  unfold enterP roomP
  split
  · simp
  · simp
/-- A round that makes a step known. -/
theorem TrI.take {G : Gr} {s : Int × Int} {room : Int} {w wr wP : World} {v0 v1 v2 v vP : Value} {q at' wy : Int} {B base mk nq : Nat} {l l3 lL lP : List It} {known : Int × Int → Option It} {ks : List (Int × Int)} {x : It} {t : Int × Int} (hI : TrI G s room w wr v0 v1 v2 q at' wy B base mk v (nq + 1) l known ks) (hr : 0 ≤ room) (hm : ∀ y, y ∈ l ↔ y = x ∨ y ∈ l3) (hmin : ∀ y ∈ l, leI x y) (hto : ToW G s room t x.y) (hkn : known t = none) (hte : ∃ e, endOk G.n e = true ∧ t = stepOf e) (hz : ∃ b, x.z = some ⟨b, 0, none⟩)
    (hml : lL.map It.y = (candsOf G room x.y t).map Prod.snd) (hll : lL.length ≤ 2) (hsl : ∀ i ∈ lL, ∃ b, i.z = some ⟨b, 0, none⟩) (hhp : HpAt wP B base vP (nq + lL.length) lP) (hmp : ∀ i, i ∈ lP ↔ i ∈ l3 ∨ i ∈ lL) (hop : HeapOk leI (itF lP) (nq + lL.length)) (hkm : KM wP mk (ks.length + 1) (fun e => if e = t then some (trOf x) else Option.map trOf (known e))) (htb : TrB w wP v0 v1 v2 q at' wy) (hkr : ∀ t i, known t = some i → StRow wP i.z i.y.ss ∧ ∃ b, i.z = some ⟨b, 0, none⟩) (hst : StRow wP x.z x.y.ss) :
    TrI G s room w wP v0 v1 v2 q at' wy B base mk vP (nq + lL.length) lP (fun u => if u = t then some x else known u) (t :: ks) := by
  have hd := hI.dj.take hr (map_pop hm) (rest := l3.map It.y) (x := x.y) (fun y hy => by
    obtain ⟨i, hi, rfl⟩ := List.mem_map.1 hy
    exact hmin i hi) hto.last (by show (known t).map It.y = none; rw [hkn]; rfl) (opn' := lP.map It.y) (fun y => by
      rw [← hml]
      simp only [List.mem_map]
      constructor
      · rintro ⟨i, hi, rfl⟩
        rcases (hmp i).1 hi with h | h
        · exact .inl ⟨i, h, rfl⟩
        · exact .inr ⟨i, h, rfl⟩
      · rintro (⟨i, hi, rfl⟩ | ⟨i, hi, rfl⟩)
        · exact ⟨i, (hmp i).2 (.inl hi), rfl⟩
        · exact ⟨i, (hmp i).2 (.inr hi), rfl⟩)
  refine ⟨hhp, hop, fun i hi => ?_, ?_, htb, ?_, hI.kn.add hkn hte x, fun u i hu => ?_, ?_⟩
  · rcases (hmp i).1 hi with h | h
    · exact hI.pz i ((hm i).2 (.inr h))
    · exact hsl i h
  · have e : (fun u => Option.map trOf ((fun u => if u = t then some x else known u) u)) = (fun e => if e = t then some (trOf x) else Option.map trOf (known e)) := by
      funext u
      by_cases h : u = t <;> simp [h]
    rw [e]
    exact hkm
  · have e : (fun u => Option.map It.y ((fun u => if u = t then some x else known u) u)) = (fun u => if u = t then some x.y else Option.map It.y (known u)) := by
      funext u
      by_cases h : u = t <;> simp [h]
    rw [e]
    exact hd
  · by_cases h : u = t
    · rw [if_pos h] at hu
      cases hu
      exact ⟨hst, hz⟩
    · rw [if_neg h] at hu
      exact hkr u i hu
  · have := hI.few
    rw [List.length_cons]
    omega
theorem trails_any (a a' : Option Addr) (N : Nt) (cap cap' m n : Nat) (q at' wy : Int) (w : World) (hright : netOk N = (0, 0)) (hn : N.pcs.length ≤ 1048576) (hs : spotP N q at' wy = true) (hP : PcsAt w a N.pcs) (hJ : JtsAt w a' N.jts) (hSE : SE w m n (seatTo N.jts N.jts.length)) :
    Calls Tryz.prog 68 #[.agg #[.slice a N.pcs.length cap, .slice a' N.jts.length cap', .map (some m)], .agg #[.int .i64 q, .int .i64 at', .int .i64 wy]] w fun e w' =>
    ∃ (mk nk : Nat) (known : Int × Int → Option It), e = .returned (.map (some mk)) ∧ KM w' mk nk (fun t => (known t).map trOf) ∧ w.heap.size ≤ mk ∧ (∀ t, (known t).map It.y = bestO (grN N hright) (q, wy) (roomP N q at' wy) t) ∧ (∀ t i, known t = some i → StRow w' i.z i.y.ss ∧ ∃ b, i.z = some ⟨b, 0, none⟩) ∧ Below w.heap.size w w' := by
  have HP := hide hP
  have HJ := hide hJ
  have HSE := hide hSE
  have HR := hide hright
  have HS := hide hs
  have hrm : 0 ≤ roomP N q at' wy ∧ roomP N q at' wy ≤ 10000000 := by
    have h := hs
    simp only [spotP, inR, Bool.and_eq_true, decide_eq_true_eq] at h
    have hl := lenAt_pos hright q (by omega) (by omega)
    unfold roomP
    split <;> omega
  have hpl : N.pcs.length ≤ 100 := by
    have a3 := (right_facts hright).1
    simp only [sizeBad, Bool.or_eq_false_iff, decide_eq_false_iff_not] at a3
    omega
  generalize hG : grN N hright = G
  have HG := hide hG
  have HGN := hide (show G.n = N.pcs.length by rw [← hG]; rfl)
  have HGX := hide (show ∀ e, G.nx e = nxP N e from fun e => by rw [← hG]; rfl)
  have HGL := hide (show ∀ p, G.len p = lenAt N p from fun p => by rw [← hG]; rfl)
  clear hP hJ hSE hs hG
  have HT0 : Hid (TrB w ((((w.alloc (.cells #[.slice a N.pcs.length cap, .slice a' N.jts.length cap', .map (some m)] 70)).alloc (.cells #[.int .i64 q, .int .i64 at', .int .i64 wy] 29)).alloc (.map #[] 0)).alloc (.cells #[.func (.func 96) #[] #[], .slice none 0 0] 171)) (.slice a N.pcs.length cap) (.slice a' N.jts.length cap') (.map (some m)) q at' wy) :=
    ⟨by simp [go_sem], by simp [go_sem], by simp [go_sem], by simp [go_sem], by simp [go_sem], by simp [go_sem], ((((Below.refl _ _).alloc (Nat.le_refl _) _).alloc (by simp) _).alloc (by simp; omega) _).alloc (by simp; omega) _⟩
  have hmm := @run_makeMap Tryz.prog
  go_enter Tryz.func68, Tryz.ntmps68
  have HK0 : Hid (KM ((((w.alloc (.cells #[.slice a N.pcs.length cap, .slice a' N.jts.length cap', .map (some m)] 70)).alloc (.cells #[.int .i64 q, .int .i64 at', .int .i64 wy] 29)).alloc (.map #[] 0)).alloc (.cells #[.func (.func 96) #[] #[], .slice none 0 0] 171)) (w.heap.size + 1 + 1) 0 (fun _ => none)) := by
    have h := KM.made ((w.alloc (.cells #[.slice a N.pcs.length cap, .slice a' N.jts.length cap', .map (some m)] 70)).alloc (.cells #[.int .i64 q, .int .i64 at', .int .i64 wy] 29))
    simp only [World.size_alloc] at h
    exact h.of_block (((Below.refl _ _).alloc (Nat.le_refl _) _).block _ (by simp))
  have HH0 : Hid (HpAt ((((w.alloc (.cells #[.slice a N.pcs.length cap, .slice a' N.jts.length cap', .map (some m)] 70)).alloc (.cells #[.int .i64 q, .int .i64 at', .int .i64 wy] 29)).alloc (.map #[] 0)).alloc (.cells #[.func (.func 96) #[] #[], .slice none 0 0] 171)) (w.heap.size + 1 + 1 + 1) (w.heap.size + 1 + 1 + 1 + 1) (.slice none 0 0) 0 []) :=
    ⟨rfl, by simp [go_sem], by simp [go_sem], by simp [go_sem], World.ownsRow_nil _ _ _ _, by omega, (fun i hi => by simp at hi), by omega, fun cur fz e => by
      have h := heap_alloc_new (((w.alloc (.cells #[.slice a N.pcs.length cap, .slice a' N.jts.length cap', .map (some m)] 70)).alloc (.cells #[.int .i64 q, .int .i64 at', .int .i64 wy] 29)).alloc (.map #[] 0)) (.cells #[.func (.func 96) #[] #[], .slice none 0 0] 171)
      simp only [World.size_alloc] at h
      rw [h] at e
      simp at e⟩
  go_upto_region 3 with fail
  have hz1 : ((((w.alloc (.cells #[.slice a N.pcs.length cap, .slice a' N.jts.length cap', .map (some m)] 70)).alloc (.cells #[.int .i64 q, .int .i64 at', .int .i64 wy] 29)).alloc (.map #[] 0)).alloc (.cells #[.func (.func 96) #[] #[], .slice none 0 0] 171)).heap.size = w.heap.size + 1 + 1 + 1 + 1 := by simp
  generalize ((((w.alloc (.cells #[.slice a N.pcs.length cap, .slice a' N.jts.length cap', .map (some m)] 70)).alloc (.cells #[.int .i64 q, .int .i64 at', .int .i64 wy] 29)).alloc (.map #[] 0)).alloc (.cells #[.func (.func 96) #[] #[], .slice none 0 0] 171)) = w1 at *
  clear hmm
  have HSTP := hide (show stepOk N.pcs.length (q, wy) = true by
    have h := HS.out
    simp only [spotP, Bool.and_eq_true] at h
    simp only [stepOk, Bool.and_eq_true]
    exact h.1)
  have n0 := HT0.out.n0
  have n1 := HT0.out.n1
  have n2 := HT0.out.n2
  have s0 := HT0.out.s0
  have s1 := HT0.out.s1
  have s2 := HT0.out.s2
  have h1 : Below w1.heap.size w1 w1.drew := (Below.refl _ _).drew
  go_cut [20] (fun _ wx => ∃ (v : Value) (l : List It), Hid (HpAt wx (w.heap.size + 1 + 1 + 1) (w.heap.size + 1 + 1 + 1 + 1) v (nxP N (headP q wy)).length l) ∧ Hid (HeapOk leI (itF l) (nxP N (headP q wy)).length) ∧ Hid (∀ y, y ∈ l.map It.y ↔ y ∈ (candsOf G (roomP N q at' wy) ⟨0, [(q, wy)]⟩ (q, wy)).map Prod.snd) ∧ Hid (∀ i ∈ l, ∃ b, i.z = some ⟨b, 0, none⟩) ∧ Hid (KM wx (w.heap.size + 1 + 1) 0 (fun _ => none)) ∧ Hid (TrB w wx (.slice a N.pcs.length cap) (.slice a' N.jts.length cap') (.map (some m)) q at' wy))
  case first =>
    go_region_law (first
      | (go_simp; go_at_call 67; refine (spotStep_any _ _ _ _).mono ?_; rintro e wS ⟨rfl, hbS⟩; have hb1S := h1.trans hbS; have HTS := hide (HT0.out.later hb1S); have m0 := HTS.out.n0; have m1 := HTS.out.n1; have m2 := HTS.out.n2; have p0 := HTS.out.s0; have p1 := HTS.out.s1; have p2 := HTS.out.s2; have hlS := cell_lt p0; have hlS2 := cell_lt m0; have HB1S := hide hb1S; clear hbS hb1S)
      | (go_simp; go_at_call 100; refine (longer_any a a' (some ⟨wS.heap.size, 0, none⟩) N cap cap' m n 1 0 [(q, wy)] q at' wy _ HR.out hn HS.out ⟨by omega, by omega⟩ ⟨by simp, by simp⟩ (HP.out.later (HTS.out.below.alloc HTS.out.below.size _)) (HJ.out.later (HTS.out.below.alloc HTS.out.below.size _)) (HSE.out.of_block ((HTS.out.below.alloc HTS.out.below.size _).block m HSE.out.lt)) (one_step wS q wy)).mono ?_; rintro e wL ⟨vL, lL, rfl, hoL, hmL, hsL, hbL⟩; have hlen := map_len hmL; rw [hlen] at hoL; obtain ⟨zL, cL, rfl, hTL, hzL⟩ := trs_of_own hoL; have hA := (Below.refl wS.heap.size wS).alloc (Nat.le_refl _) (.cells #[.int .i64 q, .int .i64 wy] 132); have hb1L := (HB1S.out.trans (hA.mono HB1S.out.size)).trans (hbL.mono (HB1S.out.trans (hA.mono HB1S.out.size)).size); have HHL := hide (HH0.out.later hb1L); have HKL := hide (HK0.out.of_block (hb1L.block _ HK0.out.lt)); have HTL := hide (HT0.out.later hb1L); have HTS2 := hide hTL; have HML := hide hmL; have HSL := hide hsL; have HZL := hide hzL; have hL1 := hb1L.size; have hSL := hA.size; have h1S := HB1S.out.size; have HLEN := hide hlen; clear hoL hmL hsL hTL hzL hbL hA hb1L hlen)
      | (go_simp; go_at_call 99; refine (push_any (w.heap.size + 1 + 1 + 1) (w.heap.size + 1 + 1 + 1 + 1) 0 cL (.slice none 0 0) [] lL zL _ HHL.out (fun j h0 h1 => by omega) HTS2.out (fun i hi => ⟨(HSL.out i hi).1, by have h := map_ss HML.out i hi; simp at h; omega⟩) (fun b off e => ⟨by have h := (HZL.out b off e).1; simp at h; omega, by simp [Value.ownBlock]⟩) (by have h := nxP_len N (headP q wy); have h' := HLEN.out; omega) (by omega)).mono ?_; rintro e wP ⟨rfl, vP, lP, hhP, hmP, hoP, hkP, _⟩; have HHP := hide hhP; have HMP := hide hmP; have HOP := hide hoP; have HKP := hide hkP; clear hhP hmP hoP hkP))
    all_goals
      have HHQ := hide (show HpAt wP (w.heap.size + 1 + 1 + 1) (w.heap.size + 1 + 1 + 1 + 1) vP (nxP N (headP q wy)).length lP by have h := HHP.out; rw [Nat.zero_add, ← HLEN.out] at h; exact h)
      have HOQ := hide (show HeapOk leI (itF lP) (nxP N (headP q wy)).length by have h := HOP.out; rw [Nat.zero_add, ← HLEN.out] at h; exact h)
      have HMQ := hide (show ∀ y, y ∈ lP.map It.y ↔ y ∈ (candsOf G (roomP N q at' wy) ⟨0, [(q, wy)]⟩ (q, wy)).map Prod.snd from fun y => by
        have e := goW_start (G := G) (s := (q, wy)) (room := roomP N q at' wy) (nxP N (headP q wy)) (HGX.out _)
        have h := HML.out
        rw [Int.zero_add] at h
        rw [← e, ← h]
        simp only [List.mem_map]
        constructor
        · rintro ⟨i, hi, rfl⟩
          exact ⟨i, by simpa using (HMP.out i).1 hi, rfl⟩
        · rintro ⟨i, hi, rfl⟩
          exact ⟨i, (HMP.out i).2 (.inr hi), rfl⟩)
      have HZQ := hide (show ∀ i ∈ lP, ∃ b, i.z = some ⟨b, 0, none⟩ from fun i hi => (HSL.out i (by simpa using (HMP.out i).1 hi)).2)
      have HKQ := hide (show KM wP (w.heap.size + 1 + 1) 0 (fun _ => none) from HKL.out.of_block (HKP.out.block _ HKL.out.lt (by omega) (by simp [Value.ownBlock])))
      have HTQ := hide (HTL.out.kept HKP.out (by omega) (fun g e => by simp [Value.ownBlock] at e))
      go_wp2_with fail
      go_meet
      case rel => exact ⟨vP, lP, HHQ, HOQ, HMQ, HZQ, HKQ, HTQ⟩
  case rest =>
    obtain ⟨v, l, HH1, HO1, HM1, HZ1, HK1, HT1⟩ := hcut
    rename World => w2
    have HTI := hide (show TrP G (q, wy) (roomP N q at' wy) w w2 (.slice a N.pcs.length cap) (.slice a' N.jts.length cap') (.map (some m)) q at' wy (w.heap.size + 1 + 1 + 1) (w.heap.size + 1 + 1 + 1 + 1) (w.heap.size + 1 + 1) ((nxP N (headP q wy)).length + 3 * (2 * G.n)) from
      ⟨v, _, l, fun _ => none, [], ⟨HH1.out, HO1.out, HZ1.out, HK1.out, HT1.out, dij_start.cong HM1.out, ⟨List.nodup_nil, fun t => by simp, fun t ht => by simp at ht⟩, (fun t i h => by cases h), (by have := nxP_len N (headP q wy); simp; omega)⟩, by simp⟩)
    clear HH1 HO1 HM1 HZ1 HK1 HT1 n0 n1 n2 s0 s1 s2 h1 HT0 HK0 HH0
    go_wp2_with fail
    go_loopg [7, 8, 9, 10] ((nxP N (headP q wy)).length + 3 * (2 * G.n)) (fun gk _ _ _ _ wr => TrP G (q, wy) (roomP N q at' wy) w wr (.slice a N.pcs.length cap) (.slice a' N.jts.length cap') (.map (some m)) q at' wy (w.heap.size + 1 + 1 + 1) (w.heap.size + 1 + 1 + 1 + 1) (w.heap.size + 1 + 1) gk)
    case atStart => exact HTI.out
    case round =>
      obtain ⟨v, nh, l, known, ks, hI, hgk⟩ := hrel
      by_cases h0 : nh = 0
      · obtain ⟨z, c, rfl⟩ := own_form hI.hp
        have HI := hide hI
        have c1 := hI.hp.c1
        clear hI HTI
        have HEND := hide (show ∀ t, (known t).map It.y = bestO G (q, wy) (roomP N q at' wy) t from fun t => dij_best hrm.1 HI.out.dj (by
          have hl := HI.out.hp.len
          rw [h0] at hl
          rw [List.eq_nil_of_length_eq_zero hl]
          rfl) t)
        have hc : ¬ 0 < nh := by omega
        clear h0
        go_wp2_with fail
        go_ret
        exact ⟨_, ks.length, known, rfl, HI.out.km, by omega, HEND.out, HI.out.kr, HI.out.tb.below⟩
      · obtain ⟨nq, rfl⟩ : ∃ nq, nh = nq + 1 := ⟨nh - 1, by omega⟩
        obtain ⟨g, c, rfl⟩ := own_some hI.hp
        have HI := hide hI
        have c1 := hI.hp.c1
        have hgb := (hI.hp.own.lt g rfl).1
        have HPOP := hide (pop_any _ _ g c nq l wr hI.hp hI.ok)
        clear hI HTI h0
        go_wp2_with fail
        refine HPOP.out.mono ?_
        rintro e w3 ⟨x, l3, rfl, hh3, hm3, ho3, hk3, hmin3, hst3⟩
        have hxl : x ∈ l := (hm3 x).2 (.inl rfl)
        have hlen := HI.out.dj.len (List.mem_map_of_mem hxl)
        rw [HGN.out] at hlen
        obtain ⟨t, ht⟩ := HI.out.dj.inv.way x.y (List.mem_map_of_mem hxl)
        have HTO := hide ht
        obtain ⟨bx, hbx⟩ := HI.out.pz x hxl
        have HH3 := hide hh3
        have HM3 := hide hm3
        have HO3 := hide ho3
        have HMIN := hide hmin3
        have HKM3 := hide (HI.out.km.of_block (hk3.block _ HI.out.km.lt (by omega) (some_ne (by omega))))
        have HTB3 := hide (HI.out.tb.kept hk3 (by omega) (fun g' e => by have : g = g' := by simpa using e
                                                                         omega))
        have HKR3 := hide (show ∀ t i, known t = some i → StRow w3 i.z i.y.ss ∧ ∃ b, i.z = some ⟨b, 0, none⟩ from fun t i h => ⟨(HI.out.kr t i h).1.kept2 hk3 HI.out.hp.tB HI.out.hp.ownT, (HI.out.kr t i h).2⟩)
        have HST3 := hide hst3
        have HX := hide hxl
        clear hh3 hm3 ho3 hk3 hmin3 hst3 ht hxl HPOP c1
        obtain ⟨⟨xf, xs⟩, xz, xc⟩ := x
        dsimp only at *
        subst hbx
        have hlp : 0 < xs.length := by omega
        obtain ⟨b', o', e1, d0, d1⟩ := HST3.out.1 (xs.length - 1) (by omega)
        obtain ⟨rfl, rfl⟩ : bx = b' ∧ 0 = o' := by simpa using e1
        rw [last_at HTO.out.last hlp, Nat.zero_add] at d0 d1
        have hbxl := cell_lt d0
        have hidx : ((xs.length : Int) - 1) = ((xs.length - 1 : Nat) : Int) := by omega
        have hidl : ((xs.length - 1 : Nat) : Int) < (xs.length : Int) := by omega
        clear e1
        go_upto_region 7 with fail
        have hA := ((Below.refl w3.heap.size w3).alloc (Nat.le_refl _) (.cells #[.int .i64 xf, .slice (some ⟨bx, 0, none⟩) xs.length xc] 101)).alloc (by simp) (.cells #[.int .i64 t.1, .int .i64 t.2] 132)
        have y0 : ((w3.alloc (.cells #[.int .i64 xf, .slice (some ⟨bx, 0, none⟩) xs.length xc] 101)).alloc (.cells #[.int .i64 t.1, .int .i64 t.2] 132)).cell? ⟨w3.heap.size, 0, none⟩ = some (.int .i64 xf) := by simp [go_sem]
        have y1 : ((w3.alloc (.cells #[.int .i64 xf, .slice (some ⟨bx, 0, none⟩) xs.length xc] 101)).alloc (.cells #[.int .i64 t.1, .int .i64 t.2] 132)).cell? ⟨w3.heap.size, 1, none⟩ = some (.slice (some ⟨bx, 0, none⟩) xs.length xc) := by simp [go_sem]
        have z0 : ((w3.alloc (.cells #[.int .i64 xf, .slice (some ⟨bx, 0, none⟩) xs.length xc] 101)).alloc (.cells #[.int .i64 t.1, .int .i64 t.2] 132)).cell? ⟨w3.heap.size + 1, 0, none⟩ = some (.int .i64 t.1) := by simp [go_sem]
        have z1 : ((w3.alloc (.cells #[.int .i64 xf, .slice (some ⟨bx, 0, none⟩) xs.length xc] 101)).alloc (.cells #[.int .i64 t.1, .int .i64 t.2] 132)).cell? ⟨w3.heap.size + 1, 1, none⟩ = some (.int .i64 t.2) := by simp [go_sem]
        have HH5 := hide (HH3.out.later hA)
        have HKM5 := hide (HKM3.out.of_block (hA.block _ HKM3.out.lt))
        have HTB5 := hide (HTB3.out.later hA)
        have HKR5 := hide (show ∀ t i, known t = some i → StRow _ i.z i.y.ss ∧ ∃ b, i.z = some ⟨b, 0, none⟩ from fun t i h => ⟨(HKR3.out t i h).1.later hA, (HKR3.out t i h).2⟩)
        have HST5 := hide (HST3.out.later hA)
        have hb3 := HTB3.out.below.size
        have hB3 := cell_lt HH3.out.c0
        generalize ((w3.alloc (.cells #[.int .i64 xf, .slice (some ⟨bx, 0, none⟩) xs.length xc] 101)).alloc (.cells #[.int .i64 t.1, .int .i64 t.2] 132)) = w5 at *
        generalize w3.heap.size = b7 at *
        obtain ⟨te, hte, htt⟩ := HTO.out.way.last_ok HTO.out.two
        have htte : t = stepOf te := by
          have h := HTO.out.last
          rw [htt] at h
          exact (Option.some.inj h).symm
        have HTE := hide (And.intro hte htte)
        have HWT := hide (step_wf (by rw [HGN.out]; exact hpl) hte htte)
        clear hA HH3 HKM3 HTB3 HKR3 HST3 d0 d1 hte htt htte
        obtain ⟨tq, tw⟩ := t
        dsimp only at *
        have hzl := cell_lt z0
        have hyl := cell_lt y0
        cases hkn : known (tq, tw) with
        | some i =>
          have hlk := HKM5.out.look_ok tq tw HWT.out
          rw [hkn] at hlk
          obtain ⟨bi, hbi⟩ := (HKR5.out _ i hkn).2
          simp only [Option.map_some, Option.getD_some, Option.isSome_some, trV_of hbi] at hlk
          have HDJ := hide (HI.out.dj.drop (map_pop HM3.out) HTO.out.last (by show (known (tq, tw)).map It.y ≠ none; rw [hkn]; simp))
          have hA5 := (Below.refl w5.heap.size w5).alloc (Nat.le_refl _) (.cells #[.int .i64 i.y.far, .slice i.z i.y.ss.length i.c] 101)
          have HIN := hide (show TrI G (q, wy) (roomP N q at' wy) w (w5.alloc (.cells #[.int .i64 i.y.far, .slice i.z i.y.ss.length i.c] 101)) (.slice a N.pcs.length cap) (.slice a' N.jts.length cap') (.map (some m)) q at' wy (w.heap.size + 1 + 1 + 1) (w.heap.size + 1 + 1 + 1 + 1) (w.heap.size + 1 + 1) (.slice (some ⟨g, 0, none⟩) nq c) nq l3 known ks from
            ⟨HH5.out.later hA5, HO3.out, (fun i hi => HI.out.pz i ((HM3.out i).2 (.inr hi))), HKM5.out.of_block (hA5.block _ HKM5.out.lt), HTB5.out.later hA5, HDJ.out, HI.out.kn, (fun t i h => ⟨(HKR5.out t i h).1.later hA5, (HKR5.out t i h).2⟩), (by have := HI.out.few; omega)⟩)
          clear hkn hA5
          go_wp2_with fail
          go_roundg (nq + 3 * (2 * G.n - ks.length))
          case measure => omega
          case rel => exact ⟨_, nq, l3, known, ks, by have h := HIN.out; rw [hbi] at h; exact h, Nat.le_refl _⟩
        | none =>
          have hlk := HKM5.out.look_ok tq tw HWT.out
          rw [hkn] at hlk
          have e0 : trV tr0 = .agg #[.int .i64 0, .slice none 0 0] := rfl
          simp only [Option.map_none, Option.getD_none, Option.isSome_none, e0] at hlk
          have hA5 := (Below.refl w5.heap.size w5).alloc (Nat.le_refl _) (.cells #[.int .i64 0, .slice none 0 0] 101)
          have y0 := cell_later' hA5 y0
          have y1 := cell_later' hA5 y1
          have z0 := cell_later' hA5 z0
          have z1 := cell_later' hA5 z1
          have HH6 := hide (HH5.out.later hA5)
          have HKM6 := hide (HKM5.out.of_block (hA5.block _ HKM5.out.lt))
          have HTB6 := hide (HTB5.out.later hA5)
          have HKR6 := hide (show ∀ t i, known t = some i → StRow _ i.z i.y.ss ∧ ∃ b, i.z = some ⟨b, 0, none⟩ from fun t i h => ⟨(HKR5.out t i h).1.later hA5, (HKR5.out t i h).2⟩)
          have HST6 := hide (HST5.out.later hA5)
          have HKN := hide hkn
          clear hkn hA5 HH5 HKM5 HTB5 HKR5 HST5
          go_upto_region 9 with fail
          clear hlk
          generalize w5.alloc (.cells #[.int .i64 0, .slice none 0 0] 101) = w6 at *
          have hfk := HI.out.kn.few
          rw [HGN.out] at hfk
          obtain ⟨w7, hup, hKM7, hg7⟩ := HKM6.out.put (by unfold maxLen; omega) tq tw HWT.out (trOf ⟨⟨xf, xs⟩, some ⟨bx, 0, none⟩, xc⟩)
          rw [trV_of (i := ⟨⟨xf, xs⟩, some ⟨bx, 0, none⟩, xc⟩) rfl] at hup
          dsimp only at hup
          have HKM7 := hide hKM7
          have HG7 := hide hg7
          clear hKM7 hg7
          go_upto_region 10 with fail
          have hk7 := kept_of_grown HG7.out
          have HH7 := hide (HH6.out.off hk7 (by omega) (show some (w.heap.size + 1 + 1) ≠ some g from some_ne (by omega)) (HKM6.out.cells _))
          have HTB7 := hide (HTB6.out.kept hk7 (by omega) (fun g' e => by cases e))
          have HKR7 := hide (show ∀ t i, known t = some i → StRow w7 i.z i.y.ss ∧ ∃ b, i.z = some ⟨b, 0, none⟩ from fun t i h => ⟨(HKR6.out t i h).1.kept2 hk7 (HKM6.out.cells _) (fun g e => by cases e), (HKR6.out t i h).2⟩)
          have HST7 := hide (HST6.out.kept2 hk7 (HKM6.out.cells _) (fun g e => by cases e))
          have y0 := hk7.cell (by omega) (by simp) y0
          have y1 := hk7.cell (by omega) (by simp) y1
          have z0 := hk7.cell (by omega) (by simp) z0
          have z1 := hk7.cell (by omega) (by simp) z1
          clear hk7 HG7 HH6 HKM6 HTB6 HKR6 HST6 hup
          have HSTP := hide (show stepOk N.pcs.length (tq, tw) = true by
            obtain ⟨⟨h1, h2⟩, h3⟩ := stepOf_ok HTE.out.1
            rw [← HTE.out.2] at h1 h2 h3
            rw [HGN.out] at h2
            dsimp only at h1 h2 h3
            simp only [stepOk, inR, Bool.and_eq_true, decide_eq_true_eq, Bool.or_eq_true, beq_iff_eq]
            omega)
          have HENT := hide (show enterP N (headP tq (-tw)) = ((enterP N te).1, (enterP N te).2.1, (enterP N te).2.2) by
            have h := head_back HTE.out.1
            rw [← HTE.out.2] at h
            rw [h])
          have HES := hide (enterP_ok HR.out (show endOk N.pcs.length te = true by rw [← HGN.out]; exact HTE.out.1))
          have HER := hide (enter_room (N := N) (e := te))
          have HEI := hide (enter_step (N := N) (e := te))
          have hxfar := HTO.out.way.far_le ⟨hrm.1, hrm.2⟩
          dsimp only at hxfar
          generalize enterP N te = sp at *
          obtain ⟨gx, gy, gz⟩ := sp
          dsimp only at *
          have HGT := hide (show gx = tq ∧ gz = tw by
            have h := HEI.out
            rw [← HTE.out.2] at h
            simpa using h)
          have HTE1 := hide (show te.1 = tq by
            have h := HTE.out.2
            unfold stepOf at h
            exact (Prod.mk.inj h).1.symm)
          have n0 := HTB7.out.n0
          have n1 := HTB7.out.n1
          have n2 := HTB7.out.n2
          have hn0 := cell_lt n0
          have h7 : Below w7.heap.size w7 w7.drew := (Below.refl _ _).drew
          have hbs7 := HTB7.out.below.size
          have hxf0 : 0 ≤ xf ∧ xf ≤ 100000000000 := by omega
          go_region_law (first
            | (go_simp; go_at_call 69; refine (layBegin_any a a' N cap cap' m tq tw gx gy gz _ HSTP.out HENT.out (HP.out.later (HTB7.out.below.trans (h7.mono HTB7.out.below.size)))).mono ?_; rintro e wS ⟨rfl, hbS⟩; have HB7S := hide (h7.trans hbS); have HTS := hide (HTB7.out.later HB7S.out); have m0 := HTS.out.n0; have m1 := HTS.out.n1; have m2 := HTS.out.n2; have q0 := cell_later' HB7S.out y0; have q1 := cell_later' HB7S.out y1; clear hbS)
            | (go_simp; go_at_call 100; refine (longer_any a a' (some ⟨bx, 0, none⟩) N cap cap' m n xc xf xs gx gy gz _ HR.out hn HES.out hxf0 ⟨hlp, by omega⟩ (HP.out.later HTS.out.below) (HJ.out.later HTS.out.below) (HSE.out.of_block (HTS.out.below.block m HSE.out.lt)) (HST7.out.later HB7S.out).1).mono ?_; rintro e wL ⟨vL, lL, rfl, hoL, hmL, hsL, hbL⟩; have hlen := map_len hmL; rw [hlen] at hoL; obtain ⟨zL, cL, rfl, hTL, hzL⟩ := trs_of_own hoL; have hb7L := HB7S.out.trans (hbL.mono HB7S.out.size); have HHL := hide (HH7.out.later hb7L); have HKL := hide (HKM7.out.of_block (hb7L.block _ HKM7.out.lt)); have HTL := hide (HTB7.out.later hb7L); have HTS2 := hide hTL; have HML := hide hmL; have HSL := hide hsL; have HZL := hide hzL; have HKRL := hide (show ∀ t i, known t = some i → StRow wL i.z i.y.ss ∧ ∃ b, i.z = some ⟨b, 0, none⟩ from fun t i h => ⟨(HKR7.out t i h).1.later hb7L, (HKR7.out t i h).2⟩); have HSTL := hide (HST7.out.later hb7L); have hL1 := hb7L.size; have h7S := HB7S.out.size; have HLEN := hide hlen; have hgw := (HH7.out.own.lt g rfl).2; clear hoL hmL hsL hTL hzL hbL hb7L hlen)
            | (go_simp; go_at_call 99; refine (push_any (w.heap.size + 1 + 1 + 1) (w.heap.size + 1 + 1 + 1 + 1) nq cL (.slice (some ⟨g, 0, none⟩) nq c) l3 lL zL _ HHL.out HO3.out HTS2.out (fun i hi => ⟨(HSL.out i hi).1, by have h := map_ss HML.out i hi; omega⟩) (fun b off e => ⟨by have h := (HZL.out b off e).1; omega, show some b ≠ some g from some_ne (by have h := (HZL.out b off e).1; omega)⟩) (by have h := nxP_len N (headP gx gz); have h' := HLEN.out; have h2 := HI.out.few; omega) (by omega)).mono ?_; rintro e wP ⟨rfl, vP, lP, hhP, hmP, hoP, hkP, _⟩; have HHP := hide hhP; have HMP := hide hmP; have HOP := hide hoP; have HKP := hide hkP; clear hhP hmP hoP hkP))
          all_goals
            have HFIN := hide (TrI.take HI.out hrm.1 HM3.out HMIN.out HTO.out HKN.out ⟨te, HTE.out⟩ ⟨bx, rfl⟩
              (show lL.map It.y = _ by
                have h := HML.out
                rw [HER.out, HTE1.out, HGT.out.1, HGT.out.2, ← HGL.out] at h
                rw [h]
                exact goW_more (x := ⟨xf, xs⟩) (t := (tq, tw)) (nxP N (headP tq tw)) (HGX.out _) hlen.1)
              (by have h := nxP_len N (headP gx gz); have h' := HLEN.out; omega) (fun i hi => (HSL.out i hi).2) HHP.out HMP.out HOP.out
              (HKL.out.of_block (HKP.out.block _ HKL.out.lt (by omega) (show some (w.heap.size + 1 + 1) ≠ some g from some_ne (by omega))))
              (HTL.out.kept HKP.out (by omega) (fun g' e => by have : g = g' := by simpa [Value.ownBlock] using e
                                                               omega))
              (fun t i h => ⟨(HKRL.out t i h).1.kept2 HKP.out HHL.out.tB HHL.out.ownT, (HKRL.out t i h).2⟩)
              (HSTL.out.kept2 HKP.out HHL.out.tB HHL.out.ownT))
            have hfew := HFIN.out.kn.few
            rw [List.length_cons] at hfew
            have hl2 : lL.length ≤ 2 := by have h := nxP_len N (headP gx gz); have h' := HLEN.out; omega
            go_wp2_with fail
            go_roundg (nq + lL.length + 3 * (2 * G.n - (ks.length + 1)))
            case measure => omega
            case rel => exact ⟨_, _, lP, _, _, HFIN.out, by rw [List.length_cons]; exact Nat.le_refl _⟩
end Go.Proofs.YtijdigdcmjdooaaGreat

/- The heap of trails: pop. Own work. -/
import Derived.Test.YtldafgbhjpfboaaGreatMxAT
import Derived.WalkSmall
import Derived.Test.YtldafgbhjpfboaaGreatMxAB
import Derived.Test.YtldafgbhjpfboaaGreatMxAM
import Derived.Test.YtldafgbhjpfboaaGreatMxAN
namespace Go.Proofs.YtldafgbhjpfboaaGreat
open Go.RowKit Go.Sort
set_option maxHeartbeats 8000000
set_option maxRecDepth 100000

theorem sink_none (B base g cap : Nat) (l : List It) (w : World) (h : HpAt w B base (.slice (some ⟨g, 0, none⟩) 0 cap) 0 l) :
    Calls Tryz.prog 86 #[.pointer (some ⟨B, 0, none⟩), .int .i64 0] w fun e w' => e = .returned (.tuple #[]) ∧ w' = w := by
  have c1 := h.c1
  clear h
  go_enter Tryz.func86, Tryz.ntmps86
  go_wp2_with fail
  go_loopw [1, 4, 5] (fun s1 _ _ wr => s1 = .int .i64 0 ∧ wr = w) (fun _ _ _ _ => 0)
  case atStart => exact ⟨rfl, rfl⟩
  case round =>
    obtain ⟨rfl, rfl⟩ := hrel
    go_wp2_with fail
    go_loopw [4, 5] (fun s4 s5 wx => s4 = .int .i64 0 ∧ s5 = .int .i64 1 ∧ wx = wr) (fun _ _ _ => 0)
    case atStart => exact ⟨rfl, rfl, rfl⟩
    case round =>
      obtain ⟨rfl, rfl, rfl⟩ := hrel
      go_wp2_with fail
      exact bodyPost_ret (v := .tuple #[]) (by simp [results, Tryz.results86, go_sem]) rfl ⟨rfl, rfl⟩
def popL (l : List It) (n : Nat) : List It := (l.set 0 (l.getD n default)).take n
theorem popL_len {l : List It} {n : Nat} (h : l.length = n + 1) : (popL l n).length = n := by simp [popL, h]
theorem popL_f {l : List It} {n : Nat} (h : l.length = n + 1) : ∀ k, k < n → itF (popL l n) k = popF (itF l) n k := by
  intro k hk
  unfold itF popL popF
  simp only [List.getD_eq_getElem?_getD, List.getElem?_take, List.getElem?_set]
  by_cases h0 : k = 0
  · subst h0
    have h1 : 0 < l.length := by omega
    have h2 : n < l.length := by omega
    simp [hk, h1]
  · have h0' : ¬ 0 = k := fun e => h0 e.symm
    simp [hk, h0, h0']
theorem popL_mem {l : List It} {n : Nat} (h : l.length = n + 1) (x : It) : x ∈ l ↔ x = itF l 0 ∨ x ∈ popL l n := by
  have hm : ∀ (m : List It) (x : It), x ∈ m ↔ HMem (itF m) m.length x := fun m x => by
    constructor
    · intro hx
      obtain ⟨k, hk, rfl⟩ := List.getElem_of_mem hx
      exact ⟨k, hk, itF_at hk⟩
    · rintro ⟨k, hk, rfl⟩
      rw [itF_at hk]; exact List.getElem_mem hk
  rw [hm l, hm (popL l n), h, popL_len h, pop_mem]
  have e : ∀ y, HMem (popF (itF l) n) n y ↔ HMem (itF (popL l n)) n y := fun y => by
    constructor
    · rintro ⟨k, hk, e⟩; exact ⟨k, hk, by rw [popL_f h k hk]; exact e⟩
    · rintro ⟨k, hk, e⟩; exact ⟨k, hk, by rw [← popL_f h k hk]; exact e⟩
  rw [e]
theorem popL_down {l : List It} {n : Nat} (h : l.length = n + 1) (ho : HeapOk leI (itF l) (n + 1)) : HeapDown leI (itF (popL l n)) n 0 := by
  have hd := heapDown_pop ho
  refine ⟨fun j h0 h1 h2 => ?_, fun h0 => by omega⟩
  rw [popL_f h j h1, popL_f h _ (by omega)]
  exact hd.1 j h0 h1 h2
theorem itCells_take (l : List It) (n : Nat) : itCells (l.take n) = (itCells l).take (n * 2) := by
  induction l generalizing n with
  | nil => simp [itCells]
  | cons x l ih =>
    cases n with
    | zero => simp [itCells]
    | succ n =>
      have e : ∀ (a : It) (l : List It), itCells (a :: l) = .int .i64 a.y.far :: .slice a.z a.y.ss.length a.c :: itCells l := fun _ _ => rfl
      rw [List.take_succ_cons, e, e, ih]
      have : (n + 1) * 2 = n * 2 + 1 + 1 := by omega
      rw [this]
      rfl
theorem owns_less {w : World} {base g cap n : Nat} {T : TypeId} {xs : List Value} (h : w.ownsRow base T 2 (.slice (some ⟨g, 0, none⟩) (n + 1) cap) (n + 1) xs) : w.ownsRow base T 2 (.slice (some ⟨g, 0, none⟩) n cap) n (xs.take (n * 2)) := by
  refine ⟨by rw [List.length_take, h.1]; omega, ?_⟩
  rcases h.2 with ⟨h', _⟩ | ⟨g', cap', cur, hv, hb, hg, hn, hc, hs, ht⟩
  · cases h'
  · obtain ⟨rfl, rfl⟩ : g = g' ∧ cap = cap' := by simpa using hv
    refine .inr ⟨g, cap, cur, rfl, hb, hg, by omega, hc, hs, ?_⟩
    rw [← ht, List.take_take]
    congr 1
    omega
theorem HpAt.popped {w : World} {B base g cap n : Nat} {l : List It} (h : HpAt w B base (.slice (some ⟨g, 0, none⟩) (n + 1) cap) (n + 1) l) (hn : n < l.length) :
    HpAt (((w.setCell ⟨g, 0, none⟩ (.int .i64 l[n].y.far)).setCell ⟨g, 1, none⟩ (.slice l[n].z l[n].y.ss.length l[n].c)).setCell ⟨B, 1, none⟩ (.slice (some ⟨g, 0, none⟩) n cap)) B base (.slice (some ⟨g, 0, none⟩) n cap) n (popL l n) ∧
    Kept2 B (some g) w (((w.setCell ⟨g, 0, none⟩ (.int .i64 l[n].y.far)).setCell ⟨g, 1, none⟩ (.slice l[n].z l[n].y.ss.length l[n].c)).setCell ⟨B, 1, none⟩ (.slice (some ⟨g, 0, none⟩) n cap)) := by
  have hb := base_le h.own
  have hlo := h.lo
  have hgB : g ≠ B := by omega
  have hk : Kept2 B (some g) w (((w.setCell ⟨g, 0, none⟩ (.int .i64 l[n].y.far)).setCell ⟨g, 1, none⟩ (.slice l[n].z l[n].y.ss.length l[n].c)).setCell ⟨B, 1, none⟩ (.slice (some ⟨g, 0, none⟩) n cap)) := by
    refine ⟨rfl, rfl, rfl, by simp, fun k hk h1 h2 => ?_⟩
    have h3 : k ≠ g := fun e => h2 (by rw [e])
    rw [Below.heap_setCell _ _ _ k h1, Below.heap_setCell _ _ _ k h3, Below.heap_setCell _ _ _ k h3]
  have c1' : ((w.setCell ⟨g, 0, none⟩ (.int .i64 l[n].y.far)).setCell ⟨g, 1, none⟩ (.slice l[n].z l[n].y.ss.length l[n].c)).cell? ⟨B, 1, none⟩ = some (.slice (some ⟨g, 0, none⟩) (n + 1) cap) := by
    rw [World.cell?_setCell_far _ ⟨g, 1, none⟩ ⟨B, 1, none⟩ _ hgB, World.cell?_setCell_far _ ⟨g, 0, none⟩ ⟨B, 1, none⟩ _ hgB]; exact h.c1
  have c0' : ((w.setCell ⟨g, 0, none⟩ (.int .i64 l[n].y.far)).setCell ⟨g, 1, none⟩ (.slice l[n].z l[n].y.ss.length l[n].c)).cell? ⟨B, 0, none⟩ = some (.func (.func 62) #[] #[]) := by
    rw [World.cell?_setCell_far _ ⟨g, 1, none⟩ ⟨B, 0, none⟩ _ hgB, World.cell?_setCell_far _ ⟨g, 0, none⟩ ⟨B, 0, none⟩ _ hgB]; exact h.c0
  have hl := h.len
  have ot : OwnT w (some g) := fun g' e => by
    have : g' = g := by simpa using e.symm
    subst this
    exact trail_block h.own
  refine ⟨⟨popL_len hl, by simp [go_sem, c0'], by simp [go_sem, c1'], ?_, ?_, hlo, ?_, by have := h.few; omega, ?_⟩, hk⟩
  · rw [World.frozen?_setCell, World.frozen?_setCell, World.frozen?_setCell]; exact h.f1
  · refine ownsRow_setCell_below ?_ (by show B < base; exact hlo) _
    have h2 := ((h.own.stored 0 (.int .i64 l[n].y.far)).1.stored 1 (.slice l[n].z l[n].y.ss.length l[n].c)).1
    have h3 := owns_less h2
    have e : itCells (popL l n) = (((itCells l).set 0 (.int .i64 l[n].y.far)).set 1 (.slice l[n].z l[n].y.ss.length l[n].c)).take (n * 2) := by
      unfold popL
      rw [itCells_take, show l.getD n default = l[n] from by simp [List.getD_eq_getElem?_getD, hn], itCells_set l 0 _ (by omega)]
    rw [e]
    exact h3
  · intro x hx
    have hx' : x ∈ l := (popL_mem hl x).2 (.inr hx)
    exact ⟨(h.st x hx').1.kept2 hk h.tB ot, (h.st x hx').2⟩
  · refine set_obj fun cur fz e => h.tB cur fz ?_
    rw [Below.heap_setCell _ _ _ B (fun e => hgB e.symm), Below.heap_setCell _ _ _ B (fun e => hgB e.symm)] at e
    exact e
theorem some_ne {a b : Nat} (h : a ≠ b) : some a ≠ some b := fun e => h (by simpa using e)
/-- A box that is neither the heap's nor a row's is written into. -/
theorem StRow.box {w : World} {z ss} (h : StRow w z ss) {b o : Nat} (hb : ∀ cur fz, w.heap[b]? ≠ some (.cells cur 37 fz)) (u : Value) : StRow (w.setCell ⟨b, o, none⟩ u) z ss := by
  have hne : ∀ c i, z = some ⟨c, i, none⟩ → b ≠ c := fun c i e hbc => by
    obtain ⟨cur, fz, hc⟩ := h.2 c i e
    subst hbc
    exact hb _ _ hc
  refine ⟨ends_set h.1 hne u, fun c i e => ?_⟩
  obtain ⟨cur, fz, hc⟩ := h.2 c i e
  refine ⟨cur, fz, ?_⟩
  rw [Below.heap_setCell _ _ _ c (fun e' => hne c i e e'.symm)]
  exact hc
theorem HpAt.box {w : World} {B base n : Nat} {v : Value} {l : List It} (h : HpAt w B base v n l) {b o : Nat} (hB : b ≠ B) (ho : some b ≠ v.ownBlock) (hb : ∀ cur fz, w.heap[b]? ≠ some (.cells cur 37 fz)) (u : Value) : HpAt (w.setCell ⟨b, o, none⟩ u) B base v n l := by
  have e : ∀ i, (w.setCell ⟨b, o, none⟩ u).cell? ⟨B, i, none⟩ = w.cell? ⟨B, i, none⟩ := fun i => World.cell?_setCell_far w ⟨b, o, none⟩ ⟨B, i, none⟩ u hB
  refine ⟨h.len, (e 0).trans h.c0, (e 1).trans h.c1, by rw [World.frozen?_setCell]; exact h.f1, ⟨h.own.1, ?_⟩, h.lo, fun i hi => ⟨(h.st i hi).1.box hb u, (h.st i hi).2⟩, h.few, fun cur fz e => h.tB cur fz (by rw [← Below.heap_setCell w ⟨b, o, none⟩ u B (fun e => hB e.symm)]; exact e)⟩
  rcases h.own.2 with h' | ⟨g, cap, cur, hv, hbg, hg, rest⟩
  · exact .inl h'
  · refine .inr ⟨g, cap, cur, hv, hbg, ?_, rest⟩
    have hbg' : g ≠ b := fun e => ho (by rw [hv, ← e]; rfl)
    rw [Below.heap_setCell w ⟨b, o, none⟩ u g hbg']
    exact hg
theorem Kept2.box {B : Nat} {og : Option Nat} {w w' : World} (h : Kept2 B og w w') {b o : Nat} (hb : w.heap.size ≤ b) (u : Value) : Kept2 B og w (w'.setCell ⟨b, o, none⟩ u) :=
  ⟨h.os, h.tape, h.output, by simp; exact h.size, fun k hk h1 h2 => by rw [Below.heap_setCell _ _ _ k (by show k ≠ b; omega)]; exact h.block k hk h1 h2⟩
theorem pop_any (B base g cap n : Nat) (l : List It) (w : World) (h : HpAt w B base (.slice (some ⟨g, 0, none⟩) (n + 1) cap) (n + 1) l) (hok : HeapOk leI (itF l) (n + 1)) :
    Calls Tryz.prog 69 #[.pointer (some ⟨B, 0, none⟩)] w fun e w' =>
    ∃ (x : It) (l' : List It), e = .returned (.agg #[.int .i64 x.y.far, .slice x.z x.y.ss.length x.c]) ∧ HpAt w' B base (.slice (some ⟨g, 0, none⟩) n cap) n l' ∧ (∀ y, y ∈ l ↔ y = x ∨ y ∈ l') ∧ HeapOk leI (itF l') n ∧ Kept2 B (some g) w w' ∧ (∀ y ∈ l, leI x y) ∧ StRow w' x.z x.y.ss := by
  have HH := hide h
  have hl := h.len
  have hfew := h.few
  have h0l : 0 < l.length := by omega
  have hnl : n < l.length := by omega
  have HTOP := hide (show ∀ y ∈ l, leI (itF l 0) y from fun y hy => by
    obtain ⟨k, hk, rfl⟩ := List.getElem_of_mem hy
    rw [← itF_at hk]
    exact heap_top (le := leI) (fun a => leW_refl a.y) leI_trans hok k (by omega))
  have HPM := hide (popL_mem hl)
  have HPD := hide (popL_down hl hok)
  have HIT := hide (itF_at h0l)
  have HST := hide (h.st l[0] (List.getElem_mem h0l))
  have HOT := hide (show OwnT w (some g) from fun g' e => by
    have : g' = g := by simpa using e.symm
    subst this
    exact trail_block h.own)
  have HTB := hide h.tB
  have hbl := base_le h.own
  have hlo := h.lo
  obtain ⟨a0, a1, _, _⟩ := h.at h0l
  simp only [Nat.zero_mul, Nat.zero_add] at a0 a1
  have c1 := h.c1
  clear h hok
  have hn1 : (0 : Int) < ((n + 1 : Nat) : Int) := by omega
  have hcB := cell_lt c1
  have hgl := cell_lt a0
  generalize hx0 : l[0] = x at *
  obtain ⟨⟨xf, xs⟩, xz, xc⟩ := x
  dsimp only at *
  clear hx0
  go_enter Tryz.func69, Tryz.ntmps69
  go_upto_region 3 with fail
  have hA := ((Below.refl w.heap.size w).alloc (Nat.le_refl _) (.cells #[.int .i64 0, .slice none 0 0] 62)).alloc (by simp) (.cells #[.int .i64 xf, .slice xz xs.length xc] 62)
  have r0 : ((w.alloc (.cells #[.int .i64 0, .slice none 0 0] 62)).alloc (.cells #[.int .i64 xf, .slice xz xs.length xc] 62)).cell? ⟨w.heap.size, 0, none⟩ = some (.int .i64 0) := by simp [go_sem]
  have r1 : ((w.alloc (.cells #[.int .i64 0, .slice none 0 0] 62)).alloc (.cells #[.int .i64 xf, .slice xz xs.length xc] 62)).cell? ⟨w.heap.size, 1, none⟩ = some (.slice none 0 0) := by simp [go_sem]
  have e0 : ((w.alloc (.cells #[.int .i64 0, .slice none 0 0] 62)).alloc (.cells #[.int .i64 xf, .slice xz xs.length xc] 62)).cell? ⟨w.heap.size + 1, 0, none⟩ = some (.int .i64 xf) := by simp [go_sem]
  have e1 : ((w.alloc (.cells #[.int .i64 0, .slice none 0 0] 62)).alloc (.cells #[.int .i64 xf, .slice xz xs.length xc] 62)).cell? ⟨w.heap.size + 1, 1, none⟩ = some (.slice xz xs.length xc) := by simp [go_sem]
  have fr : ∀ i, ((w.alloc (.cells #[.int .i64 0, .slice none 0 0] 62)).alloc (.cells #[.int .i64 xf, .slice xz xs.length xc] 62)).frozen? ⟨w.heap.size, i, none⟩ = false := fun i => by simp [go_sem]
  have HH1 := hide (HH.out.later hA)
  have HK1 := hide (Kept2.of_below (B := B) (og := some g) hA)
  have HBT : Hid (∀ cur fz, ((w.alloc (.cells #[.int .i64 0, .slice none 0 0] 62)).alloc (.cells #[.int .i64 xf, .slice xz xs.length xc] 62)).heap[w.heap.size]? ≠ some (.cells cur 37 fz)) := fun cur fz e => by
    rw [((Below.refl _ (w.alloc (.cells #[.int .i64 0, .slice none 0 0] 62))).alloc (Nat.le_refl _) (.cells #[.int .i64 xf, .slice xz xs.length xc] 62)).block w.heap.size (by simp), heap_alloc_new] at e
    simp at e
  have HOG1 := hide (trail_block HH1.out.own)
  generalize ((w.alloc (.cells #[.int .i64 0, .slice none 0 0] 62)).alloc (.cells #[.int .i64 xf, .slice xz xs.length xc] 62)) = w1 at *
  have c1 := HH1.out.c1
  have hb1 := base_le HH1.out.own
  have hcap : n + 1 ≤ cap := by
    rcases HH1.out.own.2 with ⟨h, _⟩ | ⟨g', cap', cur, hv, _, _, h, _⟩
    · cases h
    · have : cap = cap' := by simp at hv; exact hv.2
      omega
  have hpp := HH1.out.popped hnl
  obtain ⟨q0, q1, fz, _⟩ := HH1.out.at hnl
  obtain ⟨v0, v1, _, _⟩ := HH1.out.at h0l
  simp only [Nat.zero_mul, Nat.zero_add] at v0 v1
  have hfB := HH1.out.f1
  generalize l[n] = y at *
  obtain ⟨⟨yf, ys⟩, yz, yc⟩ := y
  dsimp only at *
  have HPP := hide hpp
  have z0 := fz 0
  have z1 := fz 1
  have hr0 := fr 0
  have hr1 := fr 1
  have hls := cell_lt e0
  have hni : (n : Int) < ((n + 1 : Nat) : Int) := by omega
  have hni2 : (n : Int) < (n : Int) + 1 := by omega
  have hw : w.heap.size ≠ B := by omega
  have hgB : g ≠ B := by omega
  have hBg : B ≠ g := by omega
  clear hpp fz fr hA a0 a1 HH HH1
  go_region
  all_goals
    go_upto_region 5 with fail
    have HP2 := hide (HPP.out.1.later (w' := ((((w1.setCell ⟨g, 0, none⟩ (.int .i64 yf)).setCell ⟨g, 1, none⟩ (.slice yz ys.length yc)).setCell ⟨B, 1, none⟩ (.slice (some ⟨g, 0, none⟩) n cap)).drew)) ((Below.refl _ _).drew))
    have HKQ := hide (show Kept2 B (some g) w1 ((((w1.setCell ⟨g, 0, none⟩ (.int .i64 yf)).setCell ⟨g, 1, none⟩ (.slice yz ys.length yc)).setCell ⟨B, 1, none⟩ (.slice (some ⟨g, 0, none⟩) n cap)).drew) from ⟨HPP.out.2.os, HPP.out.2.tape, HPP.out.2.output, HPP.out.2.size, HPP.out.2.block⟩)
    generalize ((((w1.setCell ⟨g, 0, none⟩ (.int .i64 yf)).setCell ⟨g, 1, none⟩ (.slice yz ys.length yc)).setCell ⟨B, 1, none⟩ (.slice (some ⟨g, 0, none⟩) n cap)).drew) = w2 at *
    clear HPP q0 q1 v0 v1 z0 z1 c1 hfB
    have HOG := hide (show OwnT w1 (some g) from fun g' e => by
      have : g' = g := by simpa using e.symm
      subst this
      exact HOG1.out)
    go_cut [39] (fun _ wx => ∃ l4, Hid (HpAt wx B base (.slice (some ⟨g, 0, none⟩) n cap) n l4) ∧ Hid (∀ y, y ∈ l4 ↔ y ∈ popL l n) ∧ Hid (HeapOk leI (itF l4) n) ∧ Hid (Kept2 B (some g) w1 wx))
    case first =>
      by_cases h0 : n = 0
      · subst h0
        have HS := hide (sink_none B base g cap _ w2 HP2.out)
        go_wp2_with fail
        refine HS.out.mono ?_
        rintro e w3 ⟨rfl, rfl⟩
        go_wp2_with fail
        go_meet
        case rel => exact ⟨_, HP2, fun y => Iff.rfl, (fun j h0 h1 => by omega), HKQ⟩
      · have HS := hide (sink_any B base g cap n 0 _ w2 HP2.out (by omega) HPD.out)
        clear h0
        go_wp2_with fail
        refine HS.out.mono ?_
        rintro e w3 ⟨rfl, l4, hh4, hm4, ho4, hmid4⟩
        have HRES := hide (And.intro hh4 (And.intro hm4 (And.intro ho4 (HKQ.out.trans (Kept2.of_mid (B := B) hmid4) (.inl rfl)))))
        clear hh4 hm4 ho4 hmid4
        go_wp2_with fail
        go_meet
        case rel => exact ⟨l4, HRES.out.1, HRES.out.2.1, HRES.out.2.2.1, HRES.out.2.2.2⟩
    case rest =>
      obtain ⟨l4, HH4, HM4, HO4, HKA⟩ := hcut
      rename World => w4
      have HK4 := hide (HK1.out.trans HKA.out (.inl rfl))
      have HBX := hide (show ∀ cur fz, w4.heap[w.heap.size]? ≠ some (.cells cur 37 fz) from fun cur fz e => HBT.out cur fz (by
        rw [← HKA.out.block w.heap.size (by omega) (by omega) (some_ne (by omega))]
        exact e))
      have HST4 := hide (HST.out.1.kept2 HK4.out HTB.out HOT.out)
      have e0 := HKA.out.cell (show w.heap.size + 1 ≠ B by omega) (some_ne (by omega)) e0
      have e1 := HKA.out.cell (show w.heap.size + 1 ≠ B by omega) (some_ne (by omega)) e1
      have r0 := HKA.out.cell (show w.heap.size ≠ B by omega) (some_ne (by omega)) r0
      have r1 := HKA.out.cell (show w.heap.size ≠ B by omega) (some_ne (by omega)) r1
      have hr0 := (World.frozen?_of_block (a := ⟨w.heap.size, 0, none⟩) (HKA.out.block w.heap.size (by omega) (by omega) (some_ne (by omega)))).trans hr0
      have hr1 := (World.frozen?_of_block (a := ⟨w.heap.size, 1, none⟩) (HKA.out.block w.heap.size (by omega) (by omega) (some_ne (by omega)))).trans hr1
      have hl4 := cell_lt r0
      go_wp2_with fail
      refine bodyPost_ret (v := .agg #[.int .i64 xf, .slice xz xs.length xc]) (by simp [results, Tryz.results69, go_sem, r0, r1]) rfl ⟨⟨⟨xf, xs⟩, xz, xc⟩, l4, rfl, ?_, ?_, HO4.out, ?_, ?_, ?_⟩
      · exact (HH4.out.box (b := w.heap.size) (by omega) (show some w.heap.size ≠ some g from some_ne (by omega)) HBX.out _).box (b := w.heap.size) (by omega) (show some w.heap.size ≠ some g from some_ne (by omega)) (set_obj HBX.out) _
      · intro y
        rw [HPM.out y, HIT.out, HM4.out y]
      · exact (HK4.out.box (Nat.le_refl _) _).box (Nat.le_refl _) _
      · intro y hy
        have := HTOP.out y hy
        rw [HIT.out] at this
        exact this
      · exact (HST4.out.box HBX.out _).box (set_obj HBX.out) _
end Go.Proofs.YtldafgbhjpfboaaGreat

/- The map of the trails that are known. Own work. -/
namespace Go.Proofs.YtldafgbhjpfboaaGreat
open Go.RowKit Go.Maps Go.Joins

theorem rowSt : (37 : TypeId) < Tryz.prog.types.size := of_decide_eq_true (by kernel_rfl)
theorem wideSt : (match Tryz.prog.underlying 37 with | some (.array _ _) | some (.struct _) => true | _ => false) = true := by rw [Tryz.underlying37]
theorem deepSt : Tryz.prog.keyTypeAt (Tryz.prog.types.size + 1) 37 = true := by kernel_rfl
theorem cellsSt : Tryz.prog.cellsOf 37 = 2 := by kernel_rfl
set_option maxRecDepth 100000 in
theorem klawSt : WideMaps.KeyLaw Tryz.prog 37 := deep_law_laid Tryz.laidOut (m := 2) (by omega) rowSt (by kernel_rfl) wideSt
theorem lawSt : Keyed Tryz.prog 37 := Keyed.of_law klawSt
theorem formedSt {c0 c1 : Value} : (Value.agg #[c0, c1]).formed Tryz.prog 37 = true := by simp [Value.formed, Tryz.underlying37, cellsSt]

set_option maxRecDepth 100000 in
theorem keySt (w : World) (x y : Int) (hx : (Lit.int .i64 x).wf = true) (hy : (Lit.int .i64 y).wf = true) : ∃ kl, keyOf Tryz.prog 37 (.agg #[.int .i64 x, .int .i64 y]) = some kl := by
  have h : DataW.Trod (H := Unit) (fun _ => ()) Tryz.prog w 0 (fun _ => true) true 37 (.agg #[.int .i64 x, .int .i64 y]) (.agg [.lit (.int .i64 x), .lit (.int .i64 y)]) ([] ++ []) :=
    shut_agg2 (y0 := (.lit (.int .i64 x), [])) (y1 := (.lit (.int .i64 y), [])) Tryz.underlying37 (by kernel_rfl) cellsSt ⟨1, by simp [DataW.trod, Tryz.underlying3, hx]⟩ ⟨1, by simp [DataW.trod, Tryz.underlying3, hy]⟩
  exact ⟨_, (keyOf_asKey deepSt wideSt formedSt h).1⟩

/-- A trail as the map holds it: how far, the block of its steps (less than nought: none), how many, with how much room. -/
structure Tr where
  far : Int
  b : Int
  n : Nat
  c : Nat
def tr0 : Tr := ⟨0, -1, 0, 0⟩
def trA (t : Tr) : Option Addr := if t.b < 0 then none else some ⟨t.b.toNat, 0, none⟩
def trV (t : Tr) : Value := .agg #[.int .i64 t.far, .slice (trA t) t.n t.c]
def trD (t : Tr) : DataW Unit := .agg [.lit (.int .i64 t.far), .lit (.int .i64 (if t.b < 0 then -1 else t.b)), .lit (.int .i64 t.n), .lit (.int .i64 t.c)]
def trR (v : Value) : Option (DataW Unit × List MemPlace) :=
  match v with
  | .agg xs => match xs.toList with
    | [.int .i64 a, .slice z n c] => match z with
      | none => some (.agg [.lit (.int .i64 a), .lit (.int .i64 (-1)), .lit (.int .i64 n), .lit (.int .i64 c)], [])
      | some ⟨b, 0, none⟩ => some (.agg [.lit (.int .i64 a), .lit (.int .i64 (b : Int)), .lit (.int .i64 n), .lit (.int .i64 c)], [])
      | _ => none
    | _ => none
  | _ => none
theorem trR_mk (t : Tr) : trR (trV t) = some (trD t, []) := by
  unfold trV trD trR trA
  by_cases h : t.b < 0
  · simp [h]
  · have : ((t.b.toNat : Nat) : Int) = t.b := by omega
    simp [h, this]
theorem trR_inv {v : Value} {t : Tr} {ps} (h : trR v = some (trD t, ps)) : v = trV t := by
  unfold trR at h
  split at h
  · rename_i xs
    split at h
    · rename_i a z n c heq
      have hx : xs = #[.int .i64 a, .slice z n c] := by apply Array.toList_inj.1; rw [heq]
      split at h
      · simp [trD] at h
        obtain ⟨⟨h1, h2, h3, h4⟩, _⟩ := h
        have hb : t.b < 0 := by
          rcases Int.lt_or_le t.b 0 with h | h
          · exact h
          · have := h2 h; omega
        rw [hx]
        unfold trV trA
        rw [if_pos hb]
        have e1 : n = t.n := by omega
        have e2 : c = t.c := by omega
        rw [h1, e1, e2]
      · rename_i b
        simp [trD] at h
        obtain ⟨⟨h1, h2, h3, h4⟩, _⟩ := h
        have hb : ¬ t.b < 0 := by split at h2 <;> omega
        have hb2 : t.b.toNat = b := by rw [if_neg hb] at h2; omega
        rw [hx]
        unfold trV trA
        rw [if_neg hb, hb2]
        have e1 : n = t.n := by omega
        have e2 : c = t.c := by omega
        rw [h1, e1, e2]
      · cases h
    · cases h
  · cases h
theorem zeroTr (w : World) : (zeroValue 62).run Tryz.prog w = .ok (trV tr0) w := by kernel_rfl

/-- Block b is a map from steps to trails that holds g. -/
def KM (w : World) (b n : Nat) (g : Int × Int → Option Tr) : Prop :=
  ∃ D : DataW Unit, w.ownsMap Tryz.prog 37 trR b n D ∧ ∀ (e : Int × Int) (kl : Lit), keyOf Tryz.prog 37 (.agg #[.int .i64 e.1, .int .i64 e.2]) = some kl → D.atKey kl (trD tr0) = trD ((g e).getD tr0) ∧ Maps.has D kl = (g e).isSome

theorem KM.made (w : World) : KM (w.alloc (.map #[] 0)) w.heap.size 0 (fun _ => none) :=
  ⟨_, World.ownsMap_made w _ _ _, fun _ _ _ => ⟨rfl, rfl⟩⟩

theorem KM.of_block {w w' : World} {b n g} (h : KM w b n g) (e : w'.heap[b]? = w.heap[b]?) : KM w' b n g := by
  obtain ⟨D, ⟨es, clock, hb, h2⟩, h3⟩ := h
  exact ⟨D, ⟨es, clock, e.trans hb, h2⟩, h3⟩

theorem KM.lt {w : World} {b n g} (h : KM w b n g) : b < w.heap.size := by
  obtain ⟨D, h, _⟩ := h
  exact h.lt

theorem KM.look {w : World} {b n g} (h : KM w b n g) (x y : Int) (hw : Wf2 (x, y)) :
    (Instr.lookup 102 (.map (some b)) (.agg #[.int .i64 x, .int .i64 y]) false).run Tryz.prog w = .ok (trV ((g (x, y)).getD tr0)) w := by
  obtain ⟨D, hown, hD⟩ := h
  obtain ⟨kl, hkl⟩ := keySt w x y hw.1 hw.2
  obtain ⟨v, ps, hrun, hv⟩ := hown.lookup lawSt Tryz.underlying102 (zeroTr w) (trR_mk _) hkl
  rw [(hD (x, y) kl hkl).1] at hv
  rw [hrun, trR_inv hv]

theorem KM.look_ok {w : World} {b n g} (h : KM w b n g) (x y : Int) (hw : Wf2 (x, y)) :
    (Instr.lookup 102 (.map (some b)) (.agg #[.int .i64 x, .int .i64 y]) true).run Tryz.prog w = .ok (.tuple #[trV ((g (x, y)).getD tr0), .bool (g (x, y)).isSome]) w := by
  obtain ⟨D, hown, hD⟩ := h
  obtain ⟨kl, hkl⟩ := keySt w x y hw.1 hw.2
  obtain ⟨v, ps, hrun, hv⟩ := hown.look_ok lawSt Tryz.underlying102 (zeroTr w) (trR_mk _) hkl
  rw [(hD (x, y) kl hkl).1] at hv
  rw [hrun, trR_inv hv, (hD (x, y) kl hkl).2]

theorem KM.put {w : World} {b n g} (h : KM w b n g) (hn : n < maxLen) (x y : Int) (hw : Wf2 (x, y)) (t : Tr) :
    ∃ w', (Instr.mapUpdate 102 (.map (some b)) (.agg #[.int .i64 x, .int .i64 y]) (trV t)).run Tryz.prog w = .ok () w' ∧ KM w' b (n + 1) (fun e => if e = (x, y) then some t else g e) ∧ w.grownBy w' (some b) := by
  obtain ⟨D, hown, hD⟩ := h
  obtain ⟨kl, hkl⟩ := keySt w x y hw.1 hw.2
  obtain ⟨w', hrun, hown', hg⟩ := hown.update lawSt Tryz.underlying102 hn hkl (trR_mk t)
  refine ⟨w', hrun, ⟨_, hown', fun e kl' hkl' => ?_⟩, hg⟩
  by_cases he : e = (x, y)
  · subst he
    obtain rfl : kl = kl' := by rw [hkl] at hkl'; exact Option.some.inj hkl'
    rw [atKey_put_same hown.isMap (lawSt.key hkl), has_put_same hown.isMap (lawSt.key hkl)]
    simp
  · have hne : kl' ≠ kl := by
      intro hk
      subst hk
      have := lawSt.inj hkl' hkl
      simp at this
      exact he (Prod.ext this.1 this.2)
    rw [atKey_put_other hne, has_put_other hne]
    simp only [if_neg he]
    exact hD e kl' hkl'
end Go.Proofs.YtldafgbhjpfboaaGreat

/- The best way to a step, as one answer; what Shortest answers: plain. Own work. -/
namespace Go.Proofs.YtldafgbhjpfboaaGreat
set_option maxHeartbeats 1000000

open Classical in
noncomputable def bestO (G : Gr) (s : Int × Int) (room : Int) (t : Int × Int) : Option Wy := if h : ∃ b, BestW (ToW G s room t) b then some (Classical.choose h) else none
section
variable {G : Gr} {s : Int × Int} {room : Int}
theorem bestO_some {t : Int × Int} {b : Wy} (h : BestW (ToW G s room t) b) : bestO G s room t = some b := by
  have hx : ∃ b, BestW (ToW G s room t) b := ⟨b, h⟩
  unfold bestO
  rw [dif_pos hx]
  exact congrArg some ((Classical.choose_spec hx).one h)
theorem bestO_none {t : Int × Int} (h : ∀ y, ¬ ToW G s room t y) : bestO G s room t = none := by
  unfold bestO
  rw [dif_neg]
  rintro ⟨b, hb⟩
  exact h b hb.1
theorem bestO_way {t : Int × Int} {b : Wy} (h : bestO G s room t = some b) : ToW G s room t b := by
  unfold bestO at h
  split at h
  · rename_i hx
    cases h
    exact (Classical.choose_spec hx).1
  · cases h
/-- Rounds end with it. -/
theorem round_best (hr : 0 ≤ room) {k : Nat} {best : Int × Int → Option Wy} (h : RoundI G s room k best []) (t : Int × Int) : best t = bestO G s room t := by
  obtain ⟨h1, h2⟩ := round_end hr h
  cases hb : best t with
  | none => rw [bestO_none (h2 t hb)]
  | some b => rw [bestO_some (h1 t b hb)]
/-- And so does what is nearest first. -/
theorem dij_best (hr : 0 ≤ room) {known : Int × Int → Option Wy} {opn : List Wy} (h : DijJ G s room known opn) (h0 : opn = []) (t : Int × Int) : known t = bestO G s room t := by
  subst h0
  cases hb : known t with
  | none => rw [bestO_none (fun y hy => h.inv.all hr hy hb)]
  | some b => rw [bestO_some (h.inv.best t b hb)]
/-- A way over joints is as far as the room at its start, at least. -/
theorem WayR.room_le {y : Wy} (hr : 0 ≤ room) (h : WayR G s room y) (h2 : 2 ≤ y.ss.length) : room ≤ y.far := by
  induction h with
  | base => simp at h2
  | @more y t e h ht he ih =>
    have h3 := cost_nonneg hr h ht
    by_cases h4 : 2 ≤ y.ss.length
    · have := ih h4
      show room ≤ y.far + costW G room y t
      omega
    · have h5 := h.pos
      have h6 : y.ss.length = 1 := by omega
      have h7 : 0 ≤ y.far := by
        cases h with
        | base => exact Int.le_refl _
        | more h' _ _ =>
          have h8 := h'.pos
          rw [extW_len] at h6
          omega
      show room ≤ y.far + costW G room y t
      unfold costW
      rw [if_pos h6]
      omega
theorem bestO_le {t : Int × Int} {b y : Wy} (h : bestO G s room t = some b) (hy : ToW G s room t y) : leW b y := by
  unfold bestO at h
  split at h
  · rename_i hx
    cases h
    exact (Classical.choose_spec hx).2 y hy
  · cases h
theorem le_far {a b : Wy} (h : leW a b) : a.far ≤ b.far := by
  unfold leW lessW at h
  split at h
  · omega
  · simp only [decide_eq_false_iff_not] at h
    omega
end
theorem WayR.head {G : Gr} {s : Int × Int} {room : Int} {y : Wy} (h : WayR G s room y) : y.ss.head? = some s := by
  induction h with
  | base => rfl
  | @more y t e h ht he ih =>
    show (y.ss ++ [stepOf e]).head? = some s
    cases hy : y.ss with
    | nil => rw [hy] at ih; cases ih
    | cons a l => rw [hy] at ih; simpa using ih
theorem rounds_go {G : Gr} {s : Int × Int} {room : Int} (hr : 0 ≤ room) : ∀ k, ∃ best line, RoundI G s room k best line
  | 0 => ⟨_, _, round_start⟩
  | k + 1 => by
    obtain ⟨best, line, h⟩ := rounds_go hr k
    exact ⟨_, _, round_next hr h⟩
theorem bestO_short {G : Gr} {s : Int × Int} {room : Int} (hr : 0 ≤ room) {t : Int × Int} {y : Wy} (h : bestO G s room t = some y) : y.ss.length ≤ 2 * G.n + 1 := by
  obtain ⟨best, line, hR⟩ := rounds_go (G := G) (s := s) hr (2 * G.n + 1)
  have h0 : line = [] := by
    by_cases e : line = []
    · exact e
    · have := round_few hR e
      omega
  subst h0
  have hb := round_best hr hR t
  rw [h] at hb
  exact hR.short t y hb
theorem bestO_none' {G : Gr} {s : Int × Int} {room : Int} (hr : 0 ≤ room) {t : Int × Int} (h : bestO G s room t = none) (y : Wy) : ¬ ToW G s room t y := by
  obtain ⟨best, line, hR⟩ := rounds_go (G := G) (s := s) hr (2 * G.n + 1)
  have h0 : line = [] := by
    by_cases e : line = []
    · exact e
    · have := round_few hR e
      omega
  subst h0
  have hb := round_best hr hR t
  rw [h] at hb
  exact (round_end hr hR).2 t hb y
end Go.Proofs.YtldafgbhjpfboaaGreat

/- spec: a line that tells a joint. Own work. -/
import Derived.Test.YtcodpnkfpmjleaaGreatDoorRnV
import Derived.Test.YtcodpnkfpmjleaaGreatDoorMxAB
import Derived.BigQuiet
namespace Go.Proofs.YtcodpnkfpmjleaaGreatDoor
open Go.RowKit Go.Sort
set_option maxHeartbeats 8000000
set_option maxRecDepth 100000

def litK : Nat → Bl
  | 0 => []
  | 1 => [101, 110, 100]
  | 2 => [106, 111, 105, 110]
  | 3 => [115, 119, 105, 116, 99, 104]
  | _ => [99, 114, 111, 115, 115]
def kindTo (l : Bl) : Nat → Nat
  | 0 => 0
  | k + 1 => if l = litK k then k else kindTo l k
theorem kindTo_all (l : Bl) : kindTo l 5 = kindW l := by
  simp only [kindTo, kindW, kindB, litK]
  by_cases h1 : l = [101, 110, 100]
  · subst h1; decide
  by_cases h2 : l = [106, 111, 105, 110]
  · subst h2; decide
  by_cases h3 : l = [115, 119, 105, 116, 99, 104]
  · subst h3; decide
  by_cases h4 : l = [99, 114, 111, 115, 115]
  · subst h4; decide
  simp [h1, h2, h3, h4]
theorem kindTo_le (l : Bl) (k : Nat) : kindTo l k ≤ k := by
  induction k with
  | zero => exact Nat.le_refl _
  | succ k ih => rw [kindTo]; split <;> omega
theorem kindW_le (l : Bl) : kindW l ≤ 4 := by
  rw [← kindTo_all, kindTo]
  split
  · omega
  · exact kindTo_le _ _
/-- A line's joint, as it was. -/
theorem ret_jt {base bn : Nat} {pv jv : Value} {ps : List Pc} {js : List Jr} {ws : List Bl} {c : Int} {w w0 : World} (hR : jointL ⟨ps, js.map (·.jt)⟩ ws = (c, ⟨ps, js.map (·.jt)⟩)) (hN : NBx base w bn pv jv ps js) (hk : Ko bn jv w0 w) : (Ending.returned (Value.int .i64 c)) = .returned (.int .i64 (jointL ⟨ps, js.map (·.jt)⟩ ws).1) ∧ ∃ jv' js', NBx base w bn pv jv' ps js' ∧ js'.map (·.jt) = (jointL ⟨ps, js.map (·.jt)⟩ ws).2.jts ∧ Ko bn jv w0 w := by
  rw [hR]
  exact ⟨rfl, jv, js, hN, rfl, hk⟩
theorem strs_drop {w : World} {b o : Nat} {ws : List Bl} (h : StrsAtR w (some ⟨b, o, none⟩) ws) (m : Nat) : StrsAtR w (some ⟨b, o + m, none⟩) (ws.drop m) := fun k hk => by
  rw [List.length_drop] at hk
  obtain ⟨b', o', e, c⟩ := h (m + k) (by omega)
  obtain ⟨rfl, rfl⟩ : b = b' ∧ o = o' := by simpa using e
  refine ⟨b, o + m, rfl, ?_⟩
  rw [List.getElem_drop, Nat.add_assoc]
  exact c
theorem strs_nil (w : World) (z : Option Addr) : StrsAtR w z [] := fun k hk => by simp at hk
theorem Ko.trans_below {bn : Nat} {v : Value} {w w2 w3 : World} (h : Ko bn v w w2) (hb : Below w2.heap.size w2 w3) : Ko bn v w w3 :=
  ⟨hb.os.trans h.os, hb.tape.trans h.tape, hb.output.trans h.output, Nat.le_trans h.size hb.size, fun b h1 h2 h3 => (hb.block b (Nat.lt_of_lt_of_le h1 h.size)).trans (h.block b h1 h2 h3)⟩
theorem infoEnd : (Tryz.prog.info? 75).map (fun i => (i.zero, i.size, i.bytes)) = some (some (.agg #[.int .i64 0, .int .i64 0]), 2, 16) := by kernel_rfl
theorem infoJoint : (Tryz.prog.info? 69).map (fun i => (i.zero, i.size, i.bytes)) = some (some (.agg #[.int .i64 0, .string ⟨#[]⟩, .slice none 0 0]), 3, 48) := by kernel_rfl
/-- The joint that is read: its box, its ends. -/
structure JBx (w1 wr : World) (kd : Nat) (name : Bl) (ev : Value) (es : List (Int × Int)) : Prop where
  below : Below w1.heap.size w1 wr
  c0 : wr.cell? ⟨w1.heap.size, 0, none⟩ = some (.int .i64 kd)
  c1 : wr.cell? ⟨w1.heap.size, 1, none⟩ = some (.string (sb name))
  c2 : wr.cell? ⟨w1.heap.size, 2, none⟩ = some ev
  f : ∀ o, wr.frozen? ⟨w1.heap.size, o, none⟩ = false
  own : wr.ownsRow (w1.heap.size + 1) 75 2 ev es.length (endCells es)
theorem JBx.start (w1 : World) (kd : Nat) (name : Bl) : JBx w1 (w1.alloc (.cells #[.int .i64 kd, .string (sb name), .slice none 0 0] 69)) kd name (.slice none 0 0) [] :=
  ⟨(Below.refl _ _).alloc (Nat.le_refl _) _, new_cell w1 _ _ 0 _ rfl, new_cell w1 _ _ 1 _ rfl, new_cell w1 _ _ 2 _ rfl, fun o => by simp [go_sem], World.ownsRow_nil _ _ _ _⟩
theorem JBx.later {w1 wr w' : World} {kd : Nat} {name : Bl} {ev : Value} {es : List (Int × Int)} (h : JBx w1 wr kd name ev es) (hb : Below wr.heap.size wr w') : JBx w1 w' kd name ev es :=
  ⟨h.below.trans (hb.mono h.below.size), cell_later' hb h.c0, cell_later' hb h.c1, cell_later' hb h.c2, fun o => by rw [hb.frozen (p := ⟨w1.heap.size, o, none⟩) (cell_lt h.c0)]; exact h.f o, owns_later' h.own hb⟩
theorem JBx.ne {w1 wr : World} {kd : Nat} {name : Bl} {ev : Value} {es : List (Int × Int)} (h : JBx w1 wr kd name ev es) : some w1.heap.size ≠ ev.ownBlock := fun e => by
  have := (h.own.lt _ e.symm).1
  omega
theorem JBx.at7 {w1 wr w' : World} {kd : Nat} {name : Bl} {ev : Value} {es : List (Int × Int)} (h : JBx w1 wr kd name ev es) (hg : wr.grownBy w' ev.ownBlock) : w'.cell? ⟨w1.heap.size, 0, none⟩ = some (.int .i64 kd) ∧ w'.cell? ⟨w1.heap.size, 1, none⟩ = some (.string (sb name)) ∧ w'.cell? ⟨w1.heap.size, 2, none⟩ = some ev ∧ ∀ o, w'.frozen? ⟨w1.heap.size, o, none⟩ = false :=
  have eB : w'.heap[w1.heap.size]? = wr.heap[w1.heap.size]? := hg.block _ (cell_lt h.c0) h.ne
  ⟨(World.cell?_of_block (a := ⟨w1.heap.size, 0, none⟩) eB).trans h.c0, (World.cell?_of_block (a := ⟨w1.heap.size, 1, none⟩) eB).trans h.c1, (World.cell?_of_block (a := ⟨w1.heap.size, 2, none⟩) eB).trans h.c2, fun o => (World.frozen?_of_block (a := ⟨w1.heap.size, o, none⟩) eB).trans (h.f o)⟩
theorem JBx.add {w1 wr w' : World} {kd : Nat} {name : Bl} {ev : Value} {es : List (Int × Int)} (h : JBx w1 wr kd name ev es) (hg : wr.grownBy w' ev.ownBlock) {g cp : Nat} {x : Int × Int} (hown : w'.ownsRow (w1.heap.size + 1) 75 2 (.slice (some ⟨g, 0, none⟩) (es.length + 1) cp) (es.length + 1) (endCells es ++ [.int .i64 x.1, .int .i64 x.2])) : JBx w1 (w'.setCell ⟨w1.heap.size, 2, none⟩ (.slice (some ⟨g, 0, none⟩) (es.length + 1) cp)) kd name (.slice (some ⟨g, 0, none⟩) (es.length + 1) cp) (es ++ [x]) := by
  obtain ⟨c0, c1, c2, cf⟩ := h.at7 hg
  refine ⟨(h.below.grown hg h.below.size (fun k e => by have := (h.own.lt k e).1; omega)).setCell (p := ⟨w1.heap.size, 2, none⟩) (Nat.le_refl _) _, (World.cell?_setCell_other _ _ _ _ (by simp)).trans c0, (World.cell?_setCell_other _ _ _ _ (by simp)).trans c1, World.cell?_setCell_same _ _ _ c2, fun o => (World.frozen?_setCell _ _ _ _).trans (cf o), ?_⟩
  rw [endCells_add1, List.length_append]
  exact ownsRow_setCell_below hown (Nat.lt_succ_self _) _
def endsE (N : Nt) (es : List Bl) : List (Int × Int) := es.map fun x => (endW N x).2
theorem endsE_snoc {N : Nt} {es : List Bl} {i : Nat} (hi : i < es.length) : endsE N (es.take (i + 1)) = endsE N (es.take i) ++ [(endW N es[i]).2] := by
  unfold endsE
  rw [List.take_succ_eq_append_getElem hi, List.map_append]
  rfl
theorem endsE_len (N : Nt) (es : List Bl) : (endsE N es).length = es.length := by simp [endsE]
theorem endW_code (N : Nt) (l : Bl) : (endW N l).1 = 0 ∨ (endW N l).1 = 1 ∨ (endW N l).1 = 3 := by
  unfold endW
  split
  · split <;> simp
  · simp
/-- The first code that is not nothing, of those so far. -/
def lateE (N : Nt) (es : List Bl) : Int := if es.any (fun x => (endW N x).1 == 3) then 3 else 0
theorem lateE_snoc {N : Nt} {es : List Bl} {i : Nat} (hi : i < es.length) : lateE N (es.take (i + 1)) = if lateE N (es.take i) = 0 then (if (endW N es[i]).1 = 3 then 3 else 0) else 3 := by
  unfold lateE
  rw [List.take_succ_eq_append_getElem hi, List.any_append]
  by_cases h : ((es.take i).any fun x => (endW N x).1 == 3) = true
  · simp [h]
  · rw [Bool.not_eq_true] at h
    simp [h]
theorem lateE_or (N : Nt) (es : List Bl) : lateE N es = 0 ∨ lateE N es = 3 := by
  unfold lateE
  split
  · exact .inr rfl
  · exact .inl rfl
theorem clash_iff (N : Nt) : ∀ (es pre : List (Int × Int)), clashE N pre es = false ↔ ∀ m (hm : m < es.length), ¬ 0 < uses N.jts es[m] ∧ es[m] ∉ pre ∧ ∀ k (hk : k < m), es[k] ≠ es[m]
  | [], pre => by simp [clashE]
  | e :: es, pre => by
    rw [clashE, Bool.or_eq_false_iff, Bool.or_eq_false_iff, clash_iff N es (pre ++ [e]), decide_eq_false_iff_not]
    constructor
    · rintro ⟨⟨h1, h2⟩, h3⟩ m hm
      cases m with
      | zero => exact ⟨h1, by simpa using h2, fun k hk => by omega⟩
      | succ m =>
        have hm' : m < es.length := by simpa using hm
        obtain ⟨g1, g2, g3⟩ := h3 m hm'
        refine ⟨g1, fun h => g2 (List.mem_append_left _ h), fun k hk => ?_⟩
        cases k with
        | zero => exact fun h => g2 (List.mem_append_right _ (by simpa using h.symm))
        | succ k => exact g3 k (by omega)
    · intro h
      refine ⟨⟨(h 0 (by simp)).1, by have h0 := (h 0 (by simp)).2.1; simp only [List.getElem_cons_zero] at h0; simpa using h0⟩, fun m hm => ?_⟩
      obtain ⟨g1, g2, g3⟩ := h (m + 1) (by simpa using hm)
      refine ⟨g1, fun h' => ?_, fun k hk => g3 (k + 1) (by omega)⟩
      rcases List.mem_append.1 h' with h' | h'
      · exact g2 h'
      · exact g3 0 (by omega) (by simpa using (List.mem_singleton.1 h').symm)
theorem jointE_five {N : Nt} {kd : Nat} {name : ByteArray} {es : List Bl} (h : es.length = kd) (hno : ∀ x ∈ es, ¬ (endW N x).1 = 1) (hl : lateE N es = 0) (hc : clashE N [] (endsE N es) = true) : jointE N kd name es = (5, N) := by
  have h1 : ((es.map (endW N)).any fun x => x.1 == 1) = false := by
    rw [List.any_eq_false]
    intro y hy
    obtain ⟨x, hx, rfl⟩ := List.mem_map.1 hy
    simpa using hno x hx
  have h3 : ((es.map (endW N)).any fun x => x.1 == 3) = false := by
    unfold lateE at hl
    split at hl
    · cases hl
    · rename_i h3; rw [List.any_map]; simpa using h3
  unfold jointE
  rw [if_neg (by omega), h1, h3]
  have hc' : clashE N [] (es.map fun x => (endW N x).2) = true := hc
  simp [hc']
theorem jointE_four {N : Nt} {kd : Nat} {name : ByteArray} {es : List Bl} (h : es.length = kd) (hno : ∀ x ∈ es, ¬ (endW N x).1 = 1) (hl : lateE N es = 0) (hc : clashE N [] (endsE N es) = false) : jointE N kd name es = if name.size ≠ 0 ∧ N.jts.any (fun j => j.name.toList == name.toList) = true then (4, N) else (0, ⟨N.pcs, N.jts ++ [⟨kd, name, endsE N es⟩]⟩) := by
  have h1 : ((es.map (endW N)).any fun x => x.1 == 1) = false := by
    rw [List.any_eq_false]
    intro y hy
    obtain ⟨x, hx, rfl⟩ := List.mem_map.1 hy
    simpa using hno x hx
  have h3 : ((es.map (endW N)).any fun x => x.1 == 3) = false := by
    unfold lateE at hl
    split at hl
    · cases hl
    · rename_i h3; rw [List.any_map]; simpa using h3
  unfold jointE
  rw [if_neg (by omega), h1, h3]
  have hc' : clashE N [] (es.map fun x => (endW N x).2) = false := hc
  simp only [hc', Bool.false_eq_true, if_false]
  rfl
theorem jointE_len {N : Nt} {kd : Nat} {name : ByteArray} {es : List Bl} (h : ¬ es.length = kd) : jointE N kd name es = (1, N) := by unfold jointE; rw [if_pos h]
theorem jointE_one {N : Nt} {kd : Nat} {name : ByteArray} {es : List Bl} (h : es.length = kd) {x : Bl} (hx : x ∈ es) (h1 : (endW N x).1 = 1) : jointE N kd name es = (1, N) := by
  unfold jointE
  rw [if_neg (by omega), if_pos]
  rw [List.any_eq_true]
  exact ⟨endW N x, List.mem_map_of_mem hx, by rw [h1]; rfl⟩
theorem jointE_late {N : Nt} {kd : Nat} {name : ByteArray} {es : List Bl} (h : es.length = kd) (hno : ∀ x ∈ es, ¬ (endW N x).1 = 1) (hl : lateE N es = 3) : jointE N kd name es = (3, N) := by
  unfold jointE
  rw [if_neg (by omega), if_neg, if_pos]
  · rw [List.any_map]
    unfold lateE at hl
    split at hl
    · rename_i h3; exact h3
    · cases hl
  · rw [List.any_eq_true]
    rintro ⟨y, hy, he⟩
    obtain ⟨x, hx, rfl⟩ := List.mem_map.1 hy
    exact hno x hx (by simpa using he)
theorem ends_shape {w : World} {base : Nat} {v : Value} {es : List (Int × Int)} (h : w.ownsRow base 75 2 v es.length (endCells es)) (h1 : 1 ≤ es.length) : ∃ eb cap, v = .slice (some ⟨eb, 0, none⟩) es.length cap ∧ base ≤ eb ∧ EndsAt w (some ⟨eb, 0, none⟩) es := by
  rcases id h.2 with ⟨rfl, h0⟩ | ⟨g, cap, cur, rfl, hb, _⟩
  · omega
  · exact ⟨g, cap, rfl, hb, ends_at_of h rfl⟩
theorem chnB {a b c : World} (h : Below a.heap.size a b) (k : Below b.heap.size b c) : Below a.heap.size a c := h.trans (k.mono h.size)
theorem NBx.neJ {base bn : Nat} {pv jv : Value} {ps : List Pc} {js : List Jr} {w : World} (h : NBx base w bn pv jv ps js) : some bn ≠ jv.ownBlock := fun e => by
  have := (h.kr.own.lt bn e.symm).1
  have := h.lo
  omega
theorem NBx.atJ {base bn : Nat} {pv jv : Value} {ps : List Pc} {js : List Jr} {w w' : World} (h : NBx base w bn pv jv ps js) (hg : w.grownBy w' jv.ownBlock) : w'.cell? ⟨bn, 0, none⟩ = some pv ∧ w'.cell? ⟨bn, 1, none⟩ = some jv ∧ ∀ o, w'.frozen? ⟨bn, o, none⟩ = false :=
  have eB : w'.heap[bn]? = w.heap[bn]? := hg.block bn (cell_lt h.n0) h.neJ
  ⟨(World.cell?_of_block (a := ⟨bn, 0, none⟩) eB).trans h.n0, (World.cell?_of_block (a := ⟨bn, 1, none⟩) eB).trans h.n1, fun o => (World.frozen?_of_block (a := ⟨bn, o, none⟩) eB).trans (h.f o)⟩
theorem NBx.addJ {base bn H eb : Nat} {pv jv : Value} {ps : List Pc} {js : List Jr} {w w' : World} (h : NBx base w bn pv jv ps js) (hg : w.grownBy w' jv.ownBlock) {g cp : Nat} {t : Jr} (hown : w'.ownsRow base 69 3 (.slice (some ⟨g, 0, none⟩) (js.length + 1) cp) (js.length + 1) (jtCells js ++ [.int .i64 t.jt.kind, .string t.jt.name, .slice t.ad t.jt.ends.length t.cap])) (ht : t.ad = some ⟨eb, 0, none⟩) (hte : w.ownsRow base 75 2 (.slice t.ad t.jt.ends.length t.cap) t.jt.ends.length (endCells t.jt.ends)) (hl : KLow H jv js) (hH : H ≤ eb) : NBx base (w'.setCell ⟨bn, 1, none⟩ (.slice (some ⟨g, 0, none⟩) (js.length + 1) cp)) bn pv (.slice (some ⟨g, 0, none⟩) (js.length + 1) cp) ps (js ++ [t]) := by
  obtain ⟨c0, c1, cf⟩ := h.atJ hg
  exact ⟨(World.cell?_setCell_other _ _ _ _ (by simp)).trans c0, World.cell?_setCell_same _ _ _ c1, fun o => (World.frozen?_setCell _ _ _ _).trans (cf o), ownsRow_setCell_below (owns_kept h.op h.kr.own (by decide) hg) h.lo _, (h.kr.add hg hown ht hte hl hH).setBelow h.lo _, h.lo, by rw [World.size_setCell]; exact Nat.le_trans h.hi hg.size⟩
theorem bS0 (w : World) (o : Obj) : Below w.heap.size w (w.alloc o) := (Below.refl _ _).alloc (Nat.le_refl _) o
theorem JBx.addN {w1 wr w' : World} {kd : Nat} {name : Bl} {ev : Value} {es : List (Int × Int)} {n : Nat} (h : JBx w1 wr kd name ev es) (hn : es.length = n) {g cp : Nat} {x : Int × Int} (hg : wr.grownBy w' ev.ownBlock) (hown : w'.ownsRow (w1.heap.size + 1) 75 2 (.slice (some ⟨g, 0, none⟩) (n + 1) cp) (n + 1) (endCells es ++ [.int .i64 x.1, .int .i64 x.2])) : JBx w1 (w'.setCell ⟨w1.heap.size, 2, none⟩ (.slice (some ⟨g, 0, none⟩) (n + 1) cp)) kd name (.slice (some ⟨g, 0, none⟩) (n + 1) cp) (es ++ [x]) := by
  subst hn
  exact h.add hg hown
theorem l2join_any (bn base : Nat) (z : Option Addr) (cz : Nat) (ws : List Bl) (pv jv : Value) (ps : List Pc) (js : List Jr) (w : World) (hn : ps.length ≤ 100000) (hl : js.length ≤ 100000) (hs : ∀ x ∈ ws, x.length ≤ 1048576) (hN : NBx base w bn pv jv ps js) (hz : StrsAtR w z ws) (hl : ws.length ≤ 1048576) (h1 : 1 ≤ ws.length) (hcz : ws.length ≤ cz) (hje : ∀ j ∈ js.map (·.jt), j.ends.length ≤ 1048576) :
    Calls Tryz.prog 37 #[.pointer (some ⟨bn, 0, none⟩), .slice z ws.length cz] w fun e w' => e = .returned (.int .i64 (jointL ⟨ps, js.map (·.jt)⟩ ws).1) ∧ ∃ jv' js', NBx base w' bn pv jv' ps js' ∧ js'.map (·.jt) = (jointL ⟨ps, js.map (·.jt)⟩ ws).2.jts ∧ Ko bn jv w w' := by
  have HN := hide hN
  have HZ := hide hz
  have HS := hide hs
  have HME := hide hje
  clear hje
  obtain ⟨b, o, rfl, c0⟩ := hz 0 h1
  have hlb := cell_lt c0
  obtain ⟨k0, hk0⟩ : ∃ k0, ws[0] = k0 := ⟨_, rfl⟩
  rw [hk0, Nat.add_zero] at c0
  have HK0 := hide hk0
  clear hN hz hs hk0
  go_enter Tryz.func37, Tryz.ntmps37
  go_wp2_with fail
  have hA1 := (Below.refl w.heap.size w).alloc (Nat.le_refl _) (.cells #[.string ⟨#[]⟩, .string ⟨#[101, 110, 100]⟩, .string ⟨#[106, 111, 105, 110]⟩, .string ⟨#[115, 119, 105, 116, 99, 104]⟩, .string ⟨#[99, 114, 111, 115, 115]⟩] 9)
  have l0 := new_cell w #[.string ⟨#[]⟩, .string ⟨#[101, 110, 100]⟩, .string ⟨#[106, 111, 105, 110]⟩, .string ⟨#[115, 119, 105, 116, 99, 104]⟩, .string ⟨#[99, 114, 111, 115, 115]⟩] 9 0 _ rfl
  have l1 := new_cell w #[.string ⟨#[]⟩, .string ⟨#[101, 110, 100]⟩, .string ⟨#[106, 111, 105, 110]⟩, .string ⟨#[115, 119, 105, 116, 99, 104]⟩, .string ⟨#[99, 114, 111, 115, 115]⟩] 9 1 _ rfl
  have l2 := new_cell w #[.string ⟨#[]⟩, .string ⟨#[101, 110, 100]⟩, .string ⟨#[106, 111, 105, 110]⟩, .string ⟨#[115, 119, 105, 116, 99, 104]⟩, .string ⟨#[99, 114, 111, 115, 115]⟩] 9 2 _ rfl
  have l3 := new_cell w #[.string ⟨#[]⟩, .string ⟨#[101, 110, 100]⟩, .string ⟨#[106, 111, 105, 110]⟩, .string ⟨#[115, 119, 105, 116, 99, 104]⟩, .string ⟨#[99, 114, 111, 115, 115]⟩] 9 3 _ rfl
  have l4 := new_cell w #[.string ⟨#[]⟩, .string ⟨#[101, 110, 100]⟩, .string ⟨#[106, 111, 105, 110]⟩, .string ⟨#[115, 119, 105, 116, 99, 104]⟩, .string ⟨#[99, 114, 111, 115, 115]⟩] 9 4 _ rfl
  replace c0 := cell_later' hA1 c0
  have HN1 := hide (HN.out.later hA1)
  have HZ1 := hide (HZ.out.later hA1)
  have HKo := hide (Ko.of_below (bn := bn) (v := jv) hA1)
  clear hA1 HN HZ
  generalize w.alloc (.cells #[.string ⟨#[]⟩, .string ⟨#[101, 110, 100]⟩, .string ⟨#[106, 111, 105, 110]⟩, .string ⟨#[115, 119, 105, 116, 99, 104]⟩, .string ⟨#[99, 114, 111, 115, 115]⟩] 9) = w1 at *
  replace hlb := cell_lt c0
  have hll := cell_lt l0
  go_loop [5, 6, 7, 22] (fun q5 _ _ q22 => ∃ k : Nat, k ≤ 5 ∧ q22 = .int .i64 k ∧ q5 = .int .i64 (kindTo k0 k : Nat)) (fun _ _ _ q22 => 5 - (intOf q22).toNat)
  case atStart => exact ⟨0, by omega, rfl, rfl⟩
  case round =>
    obtain ⟨k, hk, rfl, rfl⟩ := hrel
    by_cases hlt : k < 5
    · have hki : (k : Int) < 5 := by omega
      have hcases : k = 0 ∨ k = 1 ∨ k = 2 ∨ k = 3 ∨ k = 4 := by omega
      by_cases he : k0 = litK k
      · have HK := hide (show kindTo k0 (k + 1) = k by rw [kindTo, if_pos he])
        have gL := lit_eq he
        clear he
        rcases hcases with rfl | rfl | rfl | rfl | rfl
        all_goals
          simp only [litK] at gL
          go_wp2_with fail
          go_roundw
          case rel => exact ⟨_, hlt, rfl, by rw [HK.out]⟩
          case measure => simp [intOf]
      · have HK := hide (show kindTo k0 (k + 1) = kindTo k0 k by rw [kindTo, if_neg he])
        have gL := lit_ne he
        clear he
        rcases hcases with rfl | rfl | rfl | rfl | rfl
        all_goals
          simp only [litK] at gL
          go_wp2_with fail
          go_roundw
          case rel => exact ⟨_, hlt, rfl, by rw [HK.out]⟩
          case measure => simp [intOf]
    · obtain rfl : k = 5 := by omega
      clear hlt hk
      rw [kindTo_all]
      obtain ⟨rest, rfl⟩ : ∃ rest, ws = k0 :: rest := by
        cases ws with
        | nil => simp at h1
        | cons x rest => exact ⟨rest, by have := HK0.out; simp at this; rw [this]⟩
      have hkw := kindW_le k0
      generalize hkd : kindW k0 = kd at *
      have HKD := hide hkd
      clear hkd l0 l1 l2 l3 l4 hll
      by_cases hk00 : kd = 0
      · have HR := hide (show jointL ⟨ps, js.map (·.jt)⟩ (k0 :: rest) = (1, ⟨ps, js.map (·.jt)⟩) by unfold jointL; dsimp only; rw [if_pos (by rw [HKD.out]; exact hk00)])
        have gk : ((kd : Int) == 0) = true := by rw [beq_iff_eq]; omega
        clear hk00
        go_wp2_with fail
        go_ret
        exact ret_jt HR.out HN1.out HKo.out
      · have gk : ((kd : Int) == 0) = false := by rw [beq_eq_false_iff_ne]; omega
        have hA2 := (Below.refl w1.heap.size w1).alloc (Nat.le_refl _) (.cells #[.int .i64 kd, .string ⟨#[]⟩, .slice none 0 0] 69)
        have HN2 := hide (HN1.out.later hA2)
        have HZ2 := hide (HZ1.out.later hA2)
        have HK2 := hide (HKo.out.trans_below hA2)
        clear hA2
        go_upto_region 12 with fail
        clear c0 hlb
        go_cut [9] from 20 (fun s9 wz => wz = w1.alloc (.cells #[.int .i64 kd, .string ⟨#[]⟩, .slice none 0 0] 69) ∧ ∃ z9 c9, s9 = .slice z9 rest.length c9 ∧ Hid (StrsAtR w1 z9 rest))
        case first =>
          by_cases hc1 : cz = 1
          · subst hc1
            obtain rfl : rest = [] := by
              cases rest with
              | nil => rfl
              | cons x l => simp at hcz
            go_wp2_with fail
            go_meet
            case rel => exact ⟨rfl, _, _, rfl, strs_nil _ _⟩
          · have HSR := hide (strs_drop HZ1.out 1)
            go_wp2_with fail
            go_meet
            case rel => exact ⟨rfl, _, _, rfl, HSR⟩
        case rest =>
          obtain ⟨hw, z9, c9, rfl, HS9⟩ := hcut
          subst hw
          have hkd3 : (kd : Int) ≤ 4 := by omega
          obtain ⟨big, hbig⟩ : ∃ big : Bool, decide ((kd : Int) ≥ 3) = big := ⟨_, rfl⟩
          go_upto_if 41 with fail
          have HBIG := hide hbig
          clear hbig
          go_cut [9] from 20 (fun s9 wz => ∃ (name : Bl) (es : List Bl) (z9 : Option Addr) (c9 : Nat), s9 = .slice z9 es.length c9 ∧ es.length ≤ rest.length ∧ name.length ≤ 1048576 ∧ wz = w1.alloc (.cells #[.int .i64 kd, .string (sb name), .slice none 0 0] 69) ∧ Hid (StrsAtR w1 z9 es) ∧ Hid (∀ x ∈ es, x ∈ k0 :: rest) ∧ Hid (jointL ⟨ps, js.map (·.jt)⟩ (k0 :: rest) = jointE ⟨ps, js.map (·.jt)⟩ kd (sb name) es))
          case first =>
            by_cases h3 : kd < 3
            · obtain rfl : big = false := by rw [← HBIG.out]; exact decide_eq_false (by omega)
              have HJ := hide (show jointL ⟨ps, js.map (·.jt)⟩ (k0 :: rest) = jointE ⟨ps, js.map (·.jt)⟩ kd (sb []) rest by
                unfold jointL
                dsimp only
                rw [HKD.out, if_neg hk00, if_pos h3])
              clear h3
              go_wp2_with fail
              go_meet
              case rel => exact ⟨[], rest, z9, c9, rfl, Nat.le_refl _, by simp, rfl, HS9, (fun x hx => List.mem_cons_of_mem _ hx), HJ⟩
            · obtain rfl : big = true := by rw [← HBIG.out]; exact decide_eq_true (by omega)
              cases rest with
              | nil =>
                have HR := hide (show jointL ⟨ps, js.map (·.jt)⟩ [k0] = (1, ⟨ps, js.map (·.jt)⟩) by
                  unfold jointL
                  dsimp only
                  rw [HKD.out, if_neg hk00, if_neg h3])
                clear h3
                go_wp2_with fail
                go_ret
                exact ret_jt HR.out HN2.out HK2.out
              | cons a1 es =>
                obtain ⟨b', o', e1, d1⟩ := HZ2.out 1 (by simp)
                obtain ⟨rfl, rfl⟩ : b = b' ∧ o = o' := by simpa using e1
                simp only [List.getElem_cons_succ, List.getElem_cons_zero] at d1
                have hld := cell_lt d1
                have hsa : (sb a1).size ≤ 1048576 := by rw [sb_size]; exact HS.out a1 (by simp)
                have hla : a1.length ≤ 1048576 := HS.out a1 (by simp)
                have g2 : decide ((es.length : Int) + 1 + 1 < 2) = false := decide_eq_false (by omega)
                clear e1
                cases hnm : nm (sb a1) with
                | false =>
                  have HR := hide (show jointL ⟨ps, js.map (·.jt)⟩ (k0 :: a1 :: es) = (1, ⟨ps, js.map (·.jt)⟩) by
                    unfold jointL
                    dsimp only
                    rw [HKD.out, if_neg hk00, if_neg h3, if_neg (by rw [hnm]; simp)])
                  have HNM := hide hnm
                  clear h3 hnm
                  go_wp2_with (go_at_call 44; refine (l1name_any _ _ hsa).mono ?_; rintro e w2 ⟨rfl, hw⟩; subst hw; rw [HNM.out])
                  go_ret
                  exact ret_jt HR.out HN2.out HK2.out
                | true =>
                  have HJ := hide (show jointL ⟨ps, js.map (·.jt)⟩ (k0 :: a1 :: es) = jointE ⟨ps, js.map (·.jt)⟩ kd (sb a1) es by
                    unfold jointL
                    dsimp only
                    rw [HKD.out, if_neg hk00, if_neg h3, if_pos hnm])
                  have HNM := hide hnm
                  have HSR := hide (strs_drop HZ1.out 2)
                  clear h3 hnm
                  by_cases hc2 : cz = 2
                  · subst hc2
                    obtain rfl : es = [] := by
                      cases es with
                      | nil => rfl
                      | cons x l => simp at hcz
                    go_wp2_with (go_at_call 44; refine (l1name_any _ _ hsa).mono ?_; rintro e w2 ⟨rfl, hw⟩; subst hw; rw [HNM.out])
                    go_meet
                    case rel => exact ⟨a1, [], _, _, rfl, by simp, hla, rfl, strs_nil _ _, (fun x hx => by simp at hx), HJ⟩
                  · go_wp2_with (go_at_call 44; refine (l1name_any _ _ hsa).mono ?_; rintro e w2 ⟨rfl, hw⟩; subst hw; rw [HNM.out])
                    go_meet
                    case rel => exact ⟨a1, es, _, _, rfl, by simp, hla, rfl, HSR, (fun x hx => by simp [hx]), HJ⟩
          case rest =>
            obtain ⟨name, es, z9', c9', rfl, hel, hnl, hw, HSE, HIN, HJE⟩ := hcut
            subst hw
            have HJ0 := hide (JBx.start w1 kd name)
            obtain ⟨pa, pcap, rfl, hPA⟩ := pcs_at_of HN1.out.op
            obtain ⟨ja, jcap, rfl, hJA⟩ := kjts_at_of HN1.out.kr
            have HPA := hide hPA
            have HJA := hide hJA
            clear hPA hJA
            obtain ⟨iE, hiE, hE0, hE1, hE2⟩ := info_parts infoEnd
            have HIE := hide hiE
            have HE0 := hide hE0
            have HE1 := hide hE1
            have HE2 := hide hE2
            have hel4 : (k0 :: rest).length ≤ 1048576 := hl
            simp only [List.length_cons] at hel4
            clear hiE hE0 hE1 hE2 HN2 HK2 HZ2 HS9
            by_cases hk1 : es.length = kd
            · have gl : ((es.length : Int) != (kd : Int)) = false := by simp; omega
              have HLK := hide hk1
              clear hk1
              generalize w1.alloc (.cells #[.int .i64 kd, .string (sb name), .slice none 0 0] 69) = w3 at *
              go_wp2_with fail
              go_loopw [10, 12, 13, 14, 64] (fun q10 _ _ _ q64 wr => ∃ (i : Nat) (ev : Value), i ≤ es.length ∧ q64 = .int .i64 i ∧ q10 = .int .i64 (lateE ⟨ps, js.map (·.jt)⟩ (es.take i)) ∧ Hid (∀ x ∈ es.take i, ¬ (endW ⟨ps, js.map (·.jt)⟩ x).1 = 1) ∧ Hid (JBx w1 wr kd name ev (endsE ⟨ps, js.map (·.jt)⟩ (es.take i)))) (fun _ _ _ _ q64 _ => es.length - (intOf q64).toNat)
              case atStart => exact ⟨0, .slice none 0 0, Nat.zero_le _, rfl, rfl, (fun x hx => by simp at hx), HJ0⟩
              case round =>
                obtain ⟨i, ev, hi, rfl, rfl, HNO, HJB⟩ := hrel
                rename World => w4
                clear HJ0
                by_cases hlt : i < es.length
                · have hii : (i : Int) < (es.length : Int) := by omega
                  have HN4 := hide (HN1.out.later HJB.out.below)
                  have n0 := HN4.out.n0
                  have n1 := HN4.out.n1
                  have hln := cell_lt n0
                  obtain ⟨b9, o9, rfl, d9⟩ := (HSE.out.later HJB.out.below) i hlt
                  have hl9 := cell_lt d9
                  have hsx : (sb es[i]).size ≤ 1048576 := by rw [sb_size]; exact HS.out _ (HIN.out _ (List.getElem_mem hlt))
                  have HES := hide (endsE_snoc (N := ⟨ps, js.map (·.jt)⟩) hlt)
                  have HLS := hide (lateE_snoc (N := ⟨ps, js.map (·.jt)⟩) hlt)
                  have HCD := hide (endW_code ⟨ps, js.map (·.jt)⟩ es[i])
                  have HONE := hide (fun h => jointE_one (N := ⟨ps, js.map (·.jt)⟩) (name := sb name) HLK.out (List.getElem_mem hlt) h)
                  have HTK := hide (show es.take (i + 1) = es.take i ++ [es[i]] from List.take_succ_eq_append_getElem hlt)
                  have HEL := hide (show (endsE ⟨ps, js.map (·.jt)⟩ (es.take i)).length = i by rw [endsE_len, List.length_take]; omega)
                  have HLO := hide (lateE_or ⟨ps, js.map (·.jt)⟩ (es.take i))
                  have HCL := hide (fun (W : World) (hW : PcsAt W pa ps) => l2end_any pa ja ⟨ps, js.map (·.jt)⟩ pcap jcap js.length (sb es[i]) W (show ps.length ≤ 1048576 by omega) hsx hW)
                  rw [bs_sb] at HCL
                  generalize es[i] = ei at *
                  obtain ⟨cd, x, y, hcd⟩ : ∃ cd x y, endW ⟨ps, js.map (·.jt)⟩ ei = (cd, x, y) := ⟨_, _, _, rfl⟩
                  rw [hcd] at HES HLS HCD HONE HCL
                  have HCI := hide hcd
                  clear hcd
                  go_wp2_with fail
                  refine (HCL.out w4 (HPA.out.later HJB.out.below)).mono ?_
                  rintro e w5 ⟨rfl, hb5⟩
                  have hA5 := chnB hb5 ((Below.refl w5.heap.size w5).alloc (Nat.le_refl _) (.cells #[.int .i64 x, .int .i64 y] 75))
                  have HJ5 := hide (HJB.out.later hA5)
                  have x0 := new_cell w5 #[.int .i64 x, .int .i64 y] 75 0 _ rfl
                  have x1 := new_cell w5 #[.int .i64 x, .int .i64 y] 75 1 _ rfl
                  clear hb5 hA5 n0 n1 hln d9 hl9 HCL
                  go_upto_region 25 with fail
                  generalize w5.alloc (.cells #[.int .i64 x, .int .i64 y] 75) = w6 at *
                  generalize w5.heap.size = be at *
                  have hlx := cell_lt x0
                  by_cases h1c : cd = 1
                  · have gc : (cd == 1) = true := by rw [beq_iff_eq]; exact h1c
                    have HR := hide (show jointL ⟨ps, js.map (·.jt)⟩ (k0 :: rest) = (1, ⟨ps, js.map (·.jt)⟩) by rw [HJE.out]; exact HONE.out h1c)
                    have HNR := hide (HN1.out.later HJ5.out.below)
                    have HKR := hide (HKo.out.trans_below HJ5.out.below)
                    clear h1c
                    go_wp2_with fail
                    go_ret
                    exact ret_jt HR.out HNR.out HKR.out
                  · have gc : (cd == 1) = false := by rw [beq_eq_false_iff_ne]; exact h1c
                    have hc03 : cd = 0 ∨ cd = 3 := by rcases HCD.out with h | h | h <;> simp_all
                    have HNO2 : Hid (∀ x ∈ es.take (i + 1), ¬ (endW ⟨ps, js.map (·.jt)⟩ x).1 = 1) := fun u hu => by
                      rw [HTK.out] at hu
                      rcases List.mem_append.1 hu with hu | hu
                      · exact HNO.out u hu
                      · rw [List.mem_singleton.1 hu, HCI.out]; exact h1c
                    obtain ⟨lt2, hlt2, hlt3⟩ : ∃ lt2 : Int, lateE ⟨ps, js.map (·.jt)⟩ (es.take (i + 1)) = lt2 ∧ ((lateE ⟨ps, js.map (·.jt)⟩ (es.take i) = 0 ∧ lt2 = cd) ∨ (lateE ⟨ps, js.map (·.jt)⟩ (es.take i) = 3 ∧ lt2 = 3)) := by
                      refine ⟨_, rfl, ?_⟩
                      rw [HLS.out]
                      rcases HLO.out with h | h
                      · refine .inl ⟨h, ?_⟩
                        rw [if_pos h]
                        rcases hc03 with rfl | rfl <;> rfl
                      · refine .inr ⟨h, ?_⟩
                        rw [if_neg (by rw [h]; decide)]
                    have HL2 := hide hlt2
                    clear h1c hlt2 hc03
                    have e2 := HJ5.out.c2
                    have hle2 := cell_lt e2
                    have hml : i + 1 ≤ maxLen := by unfold maxLen; omega
                    generalize lateE ⟨ps, js.map (·.jt)⟩ (es.take i) = lt1 at *
                    have HOA := hide (show w6.ownsRow (w1.heap.size + 1) 75 2 ev i (endCells (endsE ⟨ps, js.map (·.jt)⟩ (es.take i))) by have h := HJ5.out.own; rw [HEL.out] at h; exact h)
                    have hbz : w1.heap.size + 1 ≤ w6.heap.size := Nat.le_trans hle2 (Nat.le_refl _)
                    have HAL := hide (HJ5.out.later (bS0 w6 (.cells #[.int .i64 x, .int .i64 y] 75)))
                    rcases hlt3 with ⟨rfl, rfl⟩ | ⟨rfl, rfl⟩
                    all_goals
                      go_wp2_with (first
                        | (at_builtin; (refine wpList_append_lies _ rfl _ _ _ rfl (w1.heap.size + 1) 75 iE _ 2 16 Tryz.underlying67 HIE.out HE0.out HE1.out HE2.out rfl (by omega) ev i (endCells (endsE ⟨ps, js.map (·.jt)⟩ (es.take i))) rfl (HOA.out.alloc _) ⟨_, 0, none⟩ 1 1 [.int .i64 x, .int .i64 y] rfl rfl (newsAt rfl) (by simp [Value.oneCell']) (by omega) hml (by omega) (by simp; omega) _ rfl ?_); intro g2 cp2 w7 hown2 hgrow2 hgg _; have HO7 := hide hown2; have HG7 := hide hgrow2; have hx7 := HAL.out.at7 hgrow2; obtain ⟨y0, y1, y2, yf⟩ := hx7; have yf2 := yf 2))
                      all_goals
                        have HJN := hide (HAL.out.addN HEL.out (x := (x, y)) HG7.out HO7.out)
                        go_wp2_with fail
                        go_roundw
                        case rel => exact ⟨i + 1, _, by omega, by go_num, by rw [HL2.out], HNO2, by show JBx _ _ _ _ _ _; rw [HES.out]; exact HJN.out⟩
                        case measure => simp [intOf]; omega
                · obtain rfl : i = es.length := by omega
                  rw [List.take_length] at HNO HJB
                  rw [List.take_length]
                  have hEL := endsE_len ⟨ps, js.map (·.jt)⟩ es
                  rcases lateE_or ⟨ps, js.map (·.jt)⟩ es with hl0 | hl3
                  · rw [hl0]
                    have HFIVE := hide (fun hc => jointE_five (name := sb name) HLK.out HNO.out hl0 hc)
                    have HFOUR := hide (fun hc => jointE_four (name := sb name) HLK.out HNO.out hl0 hc)
                    have HCI := hide (clash_iff ⟨ps, js.map (·.jt)⟩ (endsE ⟨ps, js.map (·.jt)⟩ es) [])
                    clear hl0 hlt hi HNO HSE HIN HS HZ1 HPA
                    generalize endsE ⟨ps, js.map (·.jt)⟩ es = E at *
                    have hE0 : 1 ≤ E.length := by have := HLK.out; omega
                    obtain ⟨eb, ecap, rfl, heb, hEA⟩ := ends_shape HJB.out.own hE0
                    have HEB := hide heb
                    have e2 := HJB.out.c2
                    have hle2 := cell_lt e2
                    clear hEA heb
                    go_wp2_with fail
                    go_loopw [15, 16, 17, 94] (fun _ _ _ q94 wr => ∃ (i : Nat), i ≤ E.length ∧ q94 = .int .i64 i ∧ Hid (∀ m (hm : m < E.length), m < i → ¬ 0 < uses (js.map (·.jt)) E[m] ∧ ∀ k (hk : k < m), E[k] ≠ E[m]) ∧ Hid (JBx w1 wr kd name (.slice (some ⟨eb, 0, none⟩) E.length ecap) E)) (fun _ _ _ q94 _ => E.length - (intOf q94).toNat)
                    case atStart => exact ⟨0, Nat.zero_le _, rfl, (fun m hm h => by omega), HJB⟩
                    case round =>
                      obtain ⟨i, hi, rfl, HNC, HJC⟩ := hrel
                      rename World => w5
                      clear HJB e2 hle2
                      by_cases hlt : i < E.length
                      · have hii : (i : Int) < (E.length : Int) := by omega
                        obtain ⟨b', o', eee, c0', c1'⟩ := (ends_at_of HJC.out.own rfl) i hlt
                        obtain ⟨rfl, rfl⟩ : eb = b' ∧ 0 = o' := by simpa using eee
                        simp only [Nat.zero_add] at c0' c1'
                        have hlc := cell_lt c0'
                        obtain ⟨x, y, hxy⟩ : ∃ x y, E[i] = (x, y) := ⟨_, _, rfl⟩
                        rw [hxy] at c0' c1'
                        have HXY := hide hxy
                        have HJ6 := hide (HJC.out.later (bS0 w5 (.cells #[.int .i64 x, .int .i64 y] 75)))
                        have x0 := new_cell w5 #[.int .i64 x, .int .i64 y] 75 0 _ rfl
                        have x1 := new_cell w5 #[.int .i64 x, .int .i64 y] 75 1 _ rfl
                        clear eee hxy
                        go_upto_region 36 with fail
                        clear c0' c1' hlc HJC
                        generalize w5.alloc (.cells #[.int .i64 x, .int .i64 y] 75) = w6 at *
                        generalize w5.heap.size = be at *
                        have HN6 := hide (HN1.out.later HJ6.out.below)
                        have n0 := HN6.out.n0
                        have n1 := HN6.out.n1
                        have hln := cell_lt n0
                        have hlx := cell_lt x0
                        have h66 : Below w6.heap.size w6 w6.drew := (Below.refl _ _).drew
                        have HCU := hide (show ∀ W : World, JtsAt W ja (js.map (·.jt)) → Calls Tryz.prog 47 #[.agg #[.slice pa ps.length pcap, .slice ja js.length jcap], .agg #[.int .i64 x, .int .i64 y]] W fun e w' => e = .returned (.int .i64 (uses (js.map (·.jt)) (x, y))) ∧ Below W.heap.size W w' from fun W hW => by
                          have h := l1uses_any pa ja ps.length pcap jcap (js.map (·.jt)) x y W (by rw [List.length_map]; omega) HME.out hW
                          rw [List.length_map] at h
                          exact h)
                        have HJ66 := hide (HJA.out.later (HJ6.out.below.trans (h66.mono HJ6.out.below.size)))
                        obtain ⟨us, hus⟩ : ∃ us, uses (js.map (·.jt)) (x, y) = us := ⟨_, rfl⟩
                        have HUS := hide hus
                        rw [hus] at HCU
                        clear hus
                        obtain ⟨ub, hub⟩ : ∃ ub : Bool, decide (0 < us) = ub := ⟨_, rfl⟩
                        have HUB := hide hub
                        clear hub
                        go_cut [94, 104] from 94 to 117 (fun s94 s104 wz => s94 = .int .i64 i ∧ s104 = .bool ub ∧ Hid (Below w6.heap.size w6 wz))
                        case first =>
                          go_region_law (first
                            | (go_simp; go_at_call 47; refine (HCU.out _ HJ66.out).mono ?_; rintro e wT ⟨rfl, hbT⟩; have HBT := hide (h66.trans hbT); clear hbT))
                          all_goals
                            go_wp2_with fail
                            go_meet
                            case rel => exact ⟨rfl, by rw [HUB.out], HBT⟩
                        case rest =>
                          obtain ⟨rfl, rfl, HBZ⟩ := hcut
                          rename World => w7
                          have HJ7 := hide (HJ6.out.later HBZ.out)
                          replace x0 := cell_later' HBZ.out x0
                          replace x1 := cell_later' HBZ.out x1
                          clear n0 n1 hln hlx h66 HCU HJ66 HN6 HJ6 HBZ
                          by_cases hu : 0 < us
                          · obtain rfl : ub = true := by rw [← HUB.out]; exact decide_eq_true hu
                            have HR := hide (show jointL ⟨ps, js.map (·.jt)⟩ (k0 :: rest) = (5, ⟨ps, js.map (·.jt)⟩) by
                              rw [HJE.out]
                              refine HFIVE.out ?_
                              cases hcl : clashE ⟨ps, js.map (·.jt)⟩ [] E with
                              | true => rfl
                              | false =>
                                have h9 := (HCI.out.1 hcl i hlt).1
                                rw [HXY.out] at h9
                                exact absurd (by show 0 < uses (js.map (·.jt)) (x, y); rw [HUS.out]; exact hu) h9)
                            have HNR := hide (HN1.out.later HJ7.out.below)
                            have HKR := hide (HKo.out.trans_below HJ7.out.below)
                            clear hu
                            go_wp2_with fail
                            go_ret
                            exact ret_jt HR.out HNR.out HKR.out
                          · obtain rfl : ub = false := by rw [← HUB.out]; exact decide_eq_false hu
                            have HNU := hide (show ¬ 0 < uses (js.map (·.jt)) E[i] by rw [HXY.out, HUS.out]; exact hu)
                            clear hu
                            go_wp2_with fail
                            go_loopw [17] (fun q17 wv => ∃ (k : Nat), k ≤ i ∧ q17 = .int .i64 k ∧ Hid (∀ m (hm : m < i), m < k → E[m] ≠ E[i]) ∧ Hid (Below w7.heap.size w7 wv)) (fun q17 _ => i - (intOf q17).toNat)
                            case atStart => exact ⟨0, Nat.zero_le _, rfl, (fun m hm h => by omega), Below.refl _ _⟩
                            case round =>
                              obtain ⟨k, hk, rfl, HNE, HBV⟩ := hrel
                              rename World => w8
                              have HJ8 := hide (HJ7.out.later HBV.out)
                              by_cases hki : k < i
                              · have hkii : (k : Int) < (i : Int) := by omega
                                have hkE : (k : Int) < (E.length : Int) := by omega
                                have z0 := cell_later' HBV.out x0
                                have z1 := cell_later' HBV.out x1
                                have e2 := HJ8.out.c2
                                have hle2 := cell_lt e2
                                have hlz := cell_lt z0
                                obtain ⟨b', o', eee, d0, d1⟩ := (ends_at_of HJ8.out.own rfl) k (by omega)
                                obtain ⟨rfl, rfl⟩ : eb = b' ∧ 0 = o' := by simpa using eee
                                simp only [Nat.zero_add] at d0 d1
                                have hld := cell_lt d0
                                obtain ⟨u, v, huv⟩ : ∃ u v, E[k] = (u, v) := ⟨_, _, rfl⟩
                                rw [huv] at d0 d1
                                have HUV := hide huv
                                clear eee huv
                                have HFV := hide (fun (h : u = x ∧ v = y) => show jointL ⟨ps, js.map (·.jt)⟩ (k0 :: rest) = (5, ⟨ps, js.map (·.jt)⟩) by
                                  rw [HJE.out]
                                  refine HFIVE.out ?_
                                  cases hcl : clashE ⟨ps, js.map (·.jt)⟩ [] E with
                                  | true => rfl
                                  | false =>
                                    have h9 := (HCI.out.1 hcl i hlt).2.2 k hki
                                    rw [HXY.out, HUV.out, h.1, h.2] at h9
                                    exact absurd rfl h9)
                                have HNX := hide (fun (h : ¬ (u = x ∧ v = y)) => show ∀ m (hm : m < i), m < k + 1 → E[m] ≠ E[i] from fun m hm h' => by
                                  by_cases e : m = k
                                  · subst e
                                    rw [HXY.out, HUV.out]
                                    exact fun h9 => h ⟨(Prod.mk.inj h9).1, (Prod.mk.inj h9).2⟩
                                  · exact HNE.out m hm (by omega))
                                by_cases h1 : u = x
                                · have g1 : (u == x) = true := by rw [beq_iff_eq]; exact h1
                                  by_cases h2 : v = y
                                  · have g2 : (v == y) = true := by rw [beq_iff_eq]; exact h2
                                    have HR := hide (HFV.out ⟨h1, h2⟩)
                                    clear h1 h2
                                    go_upto_region 41 with fail
                                    go_quiet (fail)
                                    have HNR := hide (HN1.out.later (HJ8.out.below.trans ((below_drewN (Below.refl w8.heap.size w8) nq).mono HJ8.out.below.size)))
                                    have HKR := hide (HKo.out.trans_below (HJ8.out.below.trans ((below_drewN (Below.refl w8.heap.size w8) nq).mono HJ8.out.below.size)))
                                    go_wp2_with fail
                                    go_ret
                                    exact ret_jt HR.out HNR.out HKR.out
                                  · have g2 : (v == y) = false := by rw [beq_eq_false_iff_ne]; exact h2
                                    have HN2' := hide (HNX.out (fun h => h2 h.2))
                                    clear h1 h2
                                    go_upto_region 41 with fail
                                    go_quiet (fail)
                                    have HBN := hide (HBV.out.trans ((below_drewN (Below.refl w8.heap.size w8) nq).mono HBV.out.size))
                                    go_wp2_with fail
                                    go_roundw
                                    case rel => exact ⟨k + 1, by omega, by go_num, HN2', HBN⟩
                                    case measure => simp [intOf]; omega
                                · have g1 : (u == x) = false := by rw [beq_eq_false_iff_ne]; exact h1
                                  have HN2' := hide (HNX.out (fun h => h1 h.1))
                                  clear h1
                                  go_upto_region 41 with fail
                                  go_quiet (fail)
                                  have HBN := hide (HBV.out.trans ((below_drewN (Below.refl w8.heap.size w8) nq).mono HBV.out.size))
                                  go_wp2_with fail
                                  go_roundw
                                  case rel => exact ⟨k + 1, by omega, by go_num, HN2', HBN⟩
                                  case measure => simp [intOf]; omega
                              · obtain rfl : k = i := by omega
                                have HNC2 : Hid (∀ m (hm : m < E.length), m < k + 1 → ¬ 0 < uses (js.map (·.jt)) E[m] ∧ ∀ k (hk : k < m), E[k] ≠ E[m]) := fun m hm h' => by
                                  by_cases e : m = k
                                  · subst e
                                    exact ⟨HNU.out, fun k' hk' => HNE.out k' hk' hk'⟩
                                  · exact HNC.out m hm (by omega)
                                go_wp2_with fail
                                go_roundw
                                case rel => exact ⟨k + 1, by omega, by go_num, HNC2, HJ8⟩
                                case measure => simp [intOf]; omega
                      · obtain rfl : i = E.length := by omega
                        have hcl : clashE ⟨ps, js.map (·.jt)⟩ [] E = false := HCI.out.2 (fun m hm => ⟨(HNC.out m hm hm).1, List.not_mem_nil, (HNC.out m hm hm).2⟩)
                        have HJL := hide (show jointL ⟨ps, js.map (·.jt)⟩ (k0 :: rest) = (if (sb name).size ≠ 0 ∧ (js.map (fun t : Jr => t.jt)).any (fun j => j.name.toList == (sb name).toList) = true then (4, ⟨ps, js.map (·.jt)⟩) else (0, ⟨ps, js.map (fun t : Jr => t.jt) ++ [⟨kd, sb name, E⟩]⟩)) by rw [HJE.out]; exact HFOUR.out hcl)
                        have HN5 := hide (HN1.out.later HJC.out.below)
                        have n0 := HN5.out.n0
                        have n1 := HN5.out.n1
                        have hln := cell_lt n0
                        have hjl : (js.map (·.jt)).length = js.length := List.length_map _
                        clear hcl HFOUR HFIVE HCI HNC hlt hi HJE
                        go_wp2_with fail
                        clear n0 n1 hln
                        go_loopw [19, 123] (fun _ q123 wr => ∃ (i : Nat), i ≤ js.length ∧ q123 = .int .i64 i ∧ Hid (∀ m (hm : m < (js.map (·.jt)).length), m < i → name ≠ [] → ((js.map (fun t : Jr => t.jt))[m].name.toList == (sb name).toList) = false) ∧ Hid (JBx w1 wr kd name (.slice (some ⟨eb, 0, none⟩) E.length ecap) E)) (fun _ q123 _ => js.length - (intOf q123).toNat)
                        case atStart => exact ⟨0, Nat.zero_le _, rfl, (fun m hm h => by omega), HJC⟩
                        case round =>
                          obtain ⟨i, hi, rfl, HNM, HJD⟩ := hrel
                          rename World => w6
                          clear HJC HN5
                          by_cases hlt : i < js.length
                          · have hii : (i : Int) < (js.length : Int) := by omega
                            have hilt : i < (js.map (·.jt)).length := by omega
                            obtain ⟨bj, oj, ea, ec, rfl, d0, d1, d2, _⟩ := (HJA.out.later HJD.out.below) i hilt
                            have hld := cell_lt d0
                            obtain ⟨jk, hjk⟩ : ∃ jk, (js.map (fun t : Jr => t.jt))[i] = jk := ⟨_, rfl⟩
                            rw [hjk] at d0 d1 d2
                            have HJK := hide hjk
                            clear hjk
                            have q1 := HJD.out.c1
                            have hlq := cell_lt q1
                            have HJE2 := hide (HJD.out.later (bS0 w6 (.cells #[.int .i64 jk.kind, .string jk.name, .slice ea jk.ends.length ec] 69)))
                            have HHIT := hide (fun (h : (jk.name.toList == (sb name).toList) = true ∧ name ≠ []) => show jointL ⟨ps, js.map (·.jt)⟩ (k0 :: rest) = (4, ⟨ps, js.map (·.jt)⟩) by
                              rw [HJL.out, if_pos]
                              refine ⟨by rw [sb_size]; exact fun h0 => h.2 (List.eq_nil_of_length_eq_zero h0), ?_⟩
                              rw [List.any_eq_true]
                              exact ⟨jk, by rw [← HJK.out]; exact List.getElem_mem hilt, h.1⟩)
                            have HMISS := hide (fun (h : name ≠ [] → (jk.name.toList == (sb name).toList) = false) => show ∀ m (hm : m < (js.map (·.jt)).length), m < i + 1 → name ≠ [] → ((js.map (fun t : Jr => t.jt))[m].name.toList == (sb name).toList) = false from fun m hm h' hne => by
                              by_cases e : m = i
                              · subst e; rw [HJK.out]; exact h hne
                              · exact HNM.out m hm (by omega) hne)
                            cases heq : (jk.name.toList == (sb name).toList) with
                            | false =>
                              have HN2' := hide (HMISS.out (fun _ => heq))
                              go_wp2_with fail
                              go_roundw
                              case rel => exact ⟨i + 1, by omega, by go_num, HN2', HJE2⟩
                              case measure => simp [intOf]; omega
                            | true =>
                              by_cases hne : name = []
                              · have ge := sb_empty hne
                                have HN2' := hide (HMISS.out (fun h => absurd hne h))
                                clear hne
                                go_wp2_with fail
                                go_roundw
                                case rel => exact ⟨i + 1, by omega, by go_num, HN2', HJE2⟩
                                case measure => simp [intOf]; omega
                              · have ge := sb_some hne
                                have HR := hide (HHIT.out ⟨heq, hne⟩)
                                have HNR := hide (HN1.out.later HJE2.out.below)
                                have HKR := hide (HKo.out.trans_below HJE2.out.below)
                                clear hne
                                go_wp2_with fail
                                go_ret
                                exact ret_jt HR.out HNR.out HKR.out
                          · obtain rfl : i = js.length := by omega
                            have HR := hide (show jointL ⟨ps, js.map (·.jt)⟩ (k0 :: rest) = (0, ⟨ps, js.map (·.jt) ++ [⟨kd, sb name, E⟩]⟩) by
                              rw [HJL.out, if_neg]
                              rintro ⟨h1, h2⟩
                              rw [List.any_eq_true] at h2
                              obtain ⟨j, hj, he⟩ := h2
                              obtain ⟨m, hm, rfl⟩ := List.getElem_of_mem hj
                              have := HNM.out m hm (by omega) (fun h => h1 (by rw [h]; rfl))
                              rw [this] at he
                              cases he)
                            obtain ⟨iJ, hiJ, hJ0, hJ1, hJ2⟩ := info_parts infoJoint
                            have HIJ := hide hiJ
                            have HJ0' := hide hJ0
                            have HJ1' := hide hJ1
                            have HJ2' := hide hJ2
                            have HN6 := hide (HN1.out.later HJD.out.below)
                            have HKd := hide (show Below w6.heap.size w6 (w6.drew.alloc (.cells #[.int .i64 kd, .string (sb name), .slice (some ⟨eb, 0, none⟩) E.length ecap] 69)) from ((Below.refl w6.heap.size w6).drew).alloc (by simp) _)
                            have HNd := hide (HN6.out.later HKd.out)
                            have HJd := hide (HJD.out.later HKd.out)
                            have hml : js.length + 1 ≤ maxLen := by unfold maxLen; omega
                            have hbs : base ≤ w6.heap.size + 1 := by have := HN6.out.hi; omega
                            have HKL := hide HN1.out.kr.low
                            have HTE := hide (owns_mono HJd.out.own (show base ≤ w1.heap.size + 1 by have := HN1.out.hi; omega))
                            have HKR := hide (HKo.out.trans_below HJD.out.below)
                            have n0 := HN6.out.n0
                            have n1 := HN6.out.n1
                            have q0 := HJD.out.c0
                            have q1 := HJD.out.c1
                            have q2 := HJD.out.c2
                            have hln := cell_lt n0
                            have hlq := cell_lt q0
                            clear hiJ hJ0 hJ1 hJ2 hlt hi HNM hEL
                            go_upto_region 50 with fail
                            go_region_law (first
                              | (refine step_append_lies _ (by rfl) _ _ _ (by rfl) base 69 iJ _ 3 48 Tryz.underlying24 HIJ.out HJ0'.out HJ1'.out HJ2'.out rfl (by omega) (.slice ja js.length jcap) js.length (jtCells js) (by rfl) HNd.out.kr.own ⟨_, 0, none⟩ 1 1 [.int .i64 kd, .string (sb name), .slice (some ⟨eb, 0, none⟩) E.length ecap] (by rfl) (by rfl) (World.news_of_block (heap_alloc_new _ _)) (by simp [Value.oneCell']) (by omega) hml (by omega) (by simp; omega) _ rfl ?_; intro g2 cp2 w7 hown2 hgrow2 _ _; have HO7 := hide hown2; have HG7 := hide hgrow2; have hx7 := HNd.out.atJ hgrow2; obtain ⟨x7, y7, f7⟩ := hx7; have f71 := f7 1))
                            all_goals
                              have HNN := hide (HNd.out.addJ (H := w1.heap.size) (eb := eb) (t := ⟨⟨kd, sb name, E⟩, some ⟨eb, 0, none⟩, ecap⟩) HG7.out HO7.out rfl HTE.out HKL.out (by have := HEB.out; omega))
                              have HKN := hide (HKR.out.add HKd.out HG7.out (o := 1) (.slice (some ⟨g2, 0, none⟩) (js.length + 1) cp2))
                              go_wp2_with fail
                              go_ret
                              rw [HR.out]
                              exact ⟨rfl, _, _, HNN.out, by simp, HKN.out⟩
                  · rw [hl3]
                    have HR := hide (show jointL ⟨ps, js.map (·.jt)⟩ (k0 :: rest) = (3, ⟨ps, js.map (·.jt)⟩) by rw [HJE.out]; exact jointE_late HLK.out HNO.out hl3)
                    have HNR := hide (HN1.out.later HJB.out.below)
                    have HKR := hide (HKo.out.trans_below HJB.out.below)
                    clear hl3
                    go_wp2_with fail
                    go_ret
                    exact ret_jt HR.out HNR.out HKR.out
            · have gl : ((es.length : Int) != (kd : Int)) = true := by simp; omega
              have HR := hide (show jointL ⟨ps, js.map (·.jt)⟩ (k0 :: rest) = (1, ⟨ps, js.map (·.jt)⟩) by rw [HJE.out, jointE_len hk1])
              have HNR := hide (HN1.out.later HJ0.out.below)
              have HKR := hide (HKo.out.trans_below HJ0.out.below)
              clear hk1
              go_wp2_with fail
              go_ret
              exact ret_jt HR.out HNR.out HKR.out
end Go.Proofs.YtcodpnkfpmjleaaGreatDoor

/- impl: a joint's name is taken. Own work. -/
import Derived.Test.YtcodpnkfpmjleaaGreatDoorMxAW
import Derived.Test.YtcodpnkfpmjleaaGreatDoorMxAN
namespace Go.Proofs.YtcodpnkfpmjleaaGreatDoor
open Go.RowKit Go.Sort
set_option maxHeartbeats 4000000
set_option maxRecDepth 100000

theorem takeName_any (br bm n : Nat) (seen : List (List UInt8)) (s : ByteArray) (line : Int) (w : World) (hs : s.size ≤ 1048576) (hn : n ≤ 1048576) (hc : w.cell? ⟨br, 0, none⟩ = some (.int .i64 line)) (hm : w.cell? ⟨br, 5, none⟩ = some (.map (some bm))) (hS : SI w bm n seen) :
    Calls Tryz.prog 134 #[.pointer (some ⟨br, 0, none⟩), .string s] w fun e w' => (seenI seen (bs s) = 0 ∧ (∃ v, e = .returned v) ∧ SI w' bm (n + 1) (seen ++ [bs s]) ∧ w.grownBy w' (some bm)) ∨ (seenI seen (bs s) = 1 ∧ e = .panicked (leaveC 4 line) ∧ w = w') := by
  have hmx : s.size ≤ maxLen := by unfold maxLen; omega
  have hlk := hS.look s hmx
  obtain ⟨w2, hput, hS2, hg⟩ := hS.put (by unfold maxLen; omega) s hmx
  have hl := cell_lt hc
  have HC := hide hc
  have HS2 := hide hS2
  have HG := hide hg
  clear hS hS2 hg
  have hsv : seenI seen (bs s) = 0 ∨ seenI seen (bs s) = 1 := by unfold seenI; split <;> simp
  have hse : seenI seen s.data.toList = seenI seen (bs s) := rfl
  rw [hse] at hlk
  rcases hsv with h0 | h1
  · rw [h0] at hlk
    have H0 := hide h0
    clear h0 hse hc
    go_enter Tryz.func134, Tryz.ntmps134
    go_wp2_with (go_at_call 63; refine (want_ok _ _ _).mono ?_; rintro e w3 ⟨⟨v3, rfl⟩, hw⟩; subst hw)
    go_end0
    exact .inl ⟨H0.out, ⟨_, rfl⟩, HS2.out, HG.out⟩
  · rw [h1] at hlk
    have H1 := hide h1
    clear h1 hse hc
    go_enter Tryz.func134, Tryz.ntmps134
    go_wp2_with (go_at_call 63; refine (want_noR br 4 line _ HC.out).mono ?_; rintro e w3 ⟨rfl, hw⟩; subst hw)
    exact ⟨rfl, .inr ⟨H1.out, rfl, rfl⟩⟩
end Go.Proofs.YtcodpnkfpmjleaaGreatDoor

/- impl: the reader's box. Own work. -/
namespace Go.Proofs.YtcodpnkfpmjleaaGreatDoor
open Go.RowKit Go.Maps Go.Joins Go.Sort
set_option maxHeartbeats 4000000
set_option maxRecDepth 100000

theorem owns_on {S : Nat → Prop} {w w' : World} {base : Nat} {e : TypeId} {size : Nat} {v : Value} {n : Nat} {xs : List Value} (h : w.ownsRow base e size v n xs) (ho : On S w w') (hs : ∀ g, base ≤ g → ¬ S g) : w'.ownsRow base e size v n xs := by
  refine ⟨h.1, ?_⟩
  rcases h.2 with h' | ⟨g, cap, cur, rfl, hbg, hg, rest⟩
  · exact .inl h'
  · exact .inr ⟨g, cap, cur, rfl, hbg, (ho.block g (Array.getElem?_eq_some_iff.1 hg).1 (hs g hbg)).trans hg, rest⟩
theorem KR.on {S : Nat → Prop} {w w' : World} {base : Nat} {jv : Value} {js : List Jr} (h : KR w base jv js) (ho : On S w w') (hs : ∀ g, base ≤ g → ¬ S g) : KR w' base jv js :=
  ⟨owns_on h.own ho hs, fun t ht => by obtain ⟨eb, h1, h2⟩ := h.ends t ht; exact ⟨eb, h1, owns_on h2 ho hs⟩, h.apart⟩
theorem SI.isMap {w : World} {b n seen} (h : SI w b n seen) : ∃ es clock, w.heap[b]? = some (.map es clock) := by
  obtain ⟨D, ⟨es, clock, hb, h2⟩, h3⟩ := h
  exact ⟨es, clock, hb⟩
theorem cell_no_map {w : World} {b o : Nat} {v : Value} (hc : w.cell? ⟨b, o, none⟩ = some v) {m : Nat} (hm : ∃ es clock, w.heap[m]? = some (.map es clock)) : b ≠ m := fun e => by
  subst e
  obtain ⟨es, clock, h⟩ := hm
  simp [World.cell?, h] at hc
theorem own_no_map {w : World} {base : Nat} {e : TypeId} {size : Nat} {v : Value} {n : Nat} {xs : List Value} (h : w.ownsRow base e size v n xs) {m : Nat} (hm : ∃ es clock, w.heap[m]? = some (.map es clock)) : some m ≠ v.ownBlock := fun e => by
  obtain ⟨es, clock, hm⟩ := hm
  rcases h.2 with ⟨h', _⟩ | ⟨g, cap, cur, rfl, _, hg, _⟩
  · rw [h'] at e; cases e
  · have : m = g := by simpa [Value.ownBlock] using e
    subst this
    rw [hm] at hg
    cases hg
/-- Which blocks a reader may turn. -/
def Chg (br bp be bn : Nat) (pv jv : Value) (b : Nat) : Prop := b = br ∨ b = bp ∨ b = be ∨ b = bn ∨ pv.ownBlock = some b ∨ jv.ownBlock = some b
/-- The reader's box and what it holds. -/
structure RBx (base : Nat) (wr : World) (br : Nat) (line : Int) (pv jv : Value) (ps : List Pc) (js : List Jr) (bp np : Nat) (pp : List Pc) (be ne : Nat) (seen : List (Int × Int)) (bn nn : Nat) (names : List (List UInt8)) : Prop where
  c0 : wr.cell? ⟨br, 0, none⟩ = some (.int .i64 line)
  c1 : wr.cell? ⟨br, 1, none⟩ = some pv
  c2 : wr.cell? ⟨br, 2, none⟩ = some jv
  c3 : wr.cell? ⟨br, 3, none⟩ = some (.map (some bp))
  c4 : wr.cell? ⟨br, 4, none⟩ = some (.map (some be))
  c5 : wr.cell? ⟨br, 5, none⟩ = some (.map (some bn))
  f : ∀ o, wr.frozen? ⟨br, o, none⟩ = false
  op : wr.ownsRow base 63 4 pv ps.length (pcCells ps)
  kr : KR wr base jv js
  pi : PI wr bp np pp
  ei : EI wr be ne seen
  si : SI wr bn nn names
  lo : br < base ∧ bp < base ∧ be < base ∧ bn < base
  dif : bp ≠ be ∧ bp ≠ bn ∧ be ≠ bn
  hi : base ≤ wr.heap.size
section
variable {base br bp np be ne bn nn : Nat} {line : Int} {pv jv : Value} {ps pp : List Pc} {js : List Jr} {seen : List (Int × Int)} {names : List (List UInt8)} {w w' : World}
theorem RBx.neP (h : RBx base w br line pv jv ps js bp np pp be ne seen bn nn names) : br ≠ bp := cell_no_map h.c0 h.pi.isMap
theorem RBx.neE (h : RBx base w br line pv jv ps js bp np pp be ne seen bn nn names) : br ≠ be := cell_no_map h.c0 h.ei.isMap
theorem RBx.neN (h : RBx base w br line pv jv ps js bp np pp be ne seen bn nn names) : br ≠ bn := cell_no_map h.c0 h.si.isMap
/-- A step that leaves the box, the rows and the maps alone. -/
theorem RBx.on {S : Nat → Prop} (h : RBx base w br line pv jv ps js bp np pp be ne seen bn nn names) (ho : On S w w') (hb : ¬ S br) (hg : ∀ g, base ≤ g → ¬ S g) {np' ne' nn' : Nat} {pp' : List Pc} {seen' : List (Int × Int)} {names' : List (List UInt8)} (hp : PI w' bp np' pp') (he : EI w' be ne' seen') (hn : SI w' bn nn' names') : RBx base w' br line pv jv ps js bp np' pp' be ne' seen' bn nn' names' :=
  ⟨ho.cell hb h.c0, ho.cell hb h.c1, ho.cell hb h.c2, ho.cell hb h.c3, ho.cell hb h.c4, ho.cell hb h.c5, fun o => (ho.frozen (cell_lt h.c0) hb).trans (h.f o), owns_on h.op ho hg, h.kr.on ho hg, hp, he, hn, h.lo, h.dif, Nat.le_trans h.hi ho.size⟩
theorem RBx.later (h : RBx base w br line pv jv ps js bp np pp be ne seen bn nn names) (hb : Below w.heap.size w w') : RBx base w' br line pv jv ps js bp np pp be ne seen bn nn names :=
  h.on (On.of_below (S := fun _ => False) hb) (fun h => h) (fun _ _ h => h) (h.pi.of_block (hb.block bp h.pi.lt)) (h.ei.of_block (hb.block be h.ei.lt)) (h.si.of_block (hb.block bn h.si.lt))
theorem RBx.turnP (h : RBx base w br line pv jv ps js bp np pp be ne seen bn nn names) (ho : On (· = bp) w w') {np' : Nat} {pp' : List Pc} (hp : PI w' bp np' pp') : RBx base w' br line pv jv ps js bp np' pp' be ne seen bn nn names :=
  h.on ho h.neP (fun g hg e => by have := h.lo.2.1; omega) hp (h.ei.of_block (ho.block be h.ei.lt (fun e => h.dif.1 e.symm))) (h.si.of_block (ho.block bn h.si.lt (fun e => h.dif.2.1 e.symm)))
theorem RBx.turnE (h : RBx base w br line pv jv ps js bp np pp be ne seen bn nn names) (ho : On (· = be) w w') {ne' : Nat} {seen' : List (Int × Int)} (he : EI w' be ne' seen') : RBx base w' br line pv jv ps js bp np pp be ne' seen' bn nn names :=
  h.on ho h.neE (fun g hg e => by have := h.lo.2.2.1; omega) (h.pi.of_block (ho.block bp h.pi.lt h.dif.1)) he (h.si.of_block (ho.block bn h.si.lt (fun e => h.dif.2.2 e.symm)))
theorem RBx.turnN (h : RBx base w br line pv jv ps js bp np pp be ne seen bn nn names) (ho : On (· = bn) w w') {nn' : Nat} {names' : List (List UInt8)} (hn : SI w' bn nn' names') : RBx base w' br line pv jv ps js bp np pp be ne seen bn nn' names' :=
  h.on ho h.neN (fun g hg e => by have := h.lo.2.2.2; omega) (h.pi.of_block (ho.block bp h.pi.lt h.dif.2.1)) (h.ei.of_block (ho.block be h.ei.lt h.dif.2.2)) hn
theorem RBx.keepRow (h : RBx base w br line pv jv ps js bp np pp be ne seen bn nn names) {rv : Value} {e : TypeId} {size n : Nat} {xs : List Value} (hr : w.ownsRow base e size rv n xs) (hg : w.grownBy w' rv.ownBlock) : w'.cell? ⟨br, 1, none⟩ = some pv ∧ w'.cell? ⟨br, 2, none⟩ = some jv ∧ (∀ o, w'.frozen? ⟨br, o, none⟩ = false) ∧ w'.heap[br]? = w.heap[br]? ∧ PI w' bp np pp ∧ EI w' be ne seen ∧ SI w' bn nn names := by
  have hne : some br ≠ rv.ownBlock := fun e => by have := (hr.lt br e.symm).1; have := h.lo.1; omega
  have eB : w'.heap[br]? = w.heap[br]? := hg.block br (cell_lt h.c0) hne
  exact ⟨(World.cell?_of_block (a := ⟨br, 1, none⟩) eB).trans h.c1, (World.cell?_of_block (a := ⟨br, 2, none⟩) eB).trans h.c2, fun o => (World.frozen?_of_block (a := ⟨br, o, none⟩) eB).trans (h.f o), eB,
    h.pi.of_block (hg.block bp h.pi.lt (own_no_map hr h.pi.isMap)), h.ei.of_block (hg.block be h.ei.lt (own_no_map hr h.ei.isMap)), h.si.of_block (hg.block bn h.si.lt (own_no_map hr h.si.isMap))⟩
theorem box_set {w : World} {b o o' : Nat} (h : o' ≠ o) (v : Value) : (w.setCell ⟨b, o, none⟩ v).cell? ⟨b, o', none⟩ = w.cell? ⟨b, o', none⟩ := World.cell?_setCell_other _ _ _ _ (fun e => h (by cases e; rfl))
theorem RBx.addP (h : RBx base w br line pv jv ps js bp np pp be ne seen bn nn names) (hg : w.grownBy w' pv.ownBlock) {g cp : Nat} {p : Pc} (hown : w'.ownsRow base 63 4 (.slice (some ⟨g, 0, none⟩) (ps.length + 1) cp) (ps.length + 1) (pcCells ps ++ [.string p.name, .int .i64 p.len, .int .i64 p.speed, .int .i64 p.brake])) : RBx base (w'.setCell ⟨br, 1, none⟩ (.slice (some ⟨g, 0, none⟩) (ps.length + 1) cp)) br line (.slice (some ⟨g, 0, none⟩) (ps.length + 1) cp) jv (ps ++ [p]) js bp np pp be ne seen bn nn names := by
  obtain ⟨k1, k2, kf, eB, k3, k4, k5⟩ := h.keepRow h.op hg
  have hx : ∀ o {v : Value}, w.cell? ⟨br, o, none⟩ = some v → w'.cell? ⟨br, o, none⟩ = some v := fun o v hv => (World.cell?_of_block (a := ⟨br, o, none⟩) eB).trans hv
  refine ⟨(box_set (by omega) _).trans (hx 0 h.c0), World.cell?_setCell_same _ _ _ k1, (box_set (by omega) _).trans k2, (box_set (by omega) _).trans (hx 3 h.c3), (box_set (by omega) _).trans (hx 4 h.c4), (box_set (by omega) _).trans (hx 5 h.c5), fun o => (World.frozen?_setCell _ _ _ _).trans (kf o), ?_, (h.kr.keptP h.op hg).setBelow h.lo.1 _,
    k3.of_block (Below.heap_setCell _ _ _ bp h.neP.symm), k4.of_block (Below.heap_setCell _ _ _ be h.neE.symm), k5.of_block (Below.heap_setCell _ _ _ bn h.neN.symm), h.lo, h.dif, by rw [World.size_setCell]; exact Nat.le_trans h.hi hg.size⟩
  rw [pcCells_add, List.length_append]
  exact ownsRow_setCell_below hown h.lo.1 _
theorem RBx.addJ {H eb : Nat} (h : RBx base w br line pv jv ps js bp np pp be ne seen bn nn names) (hg : w.grownBy w' jv.ownBlock) {g cp : Nat} {t : Jr} (hown : w'.ownsRow base 69 3 (.slice (some ⟨g, 0, none⟩) (js.length + 1) cp) (js.length + 1) (jtCells js ++ [.int .i64 t.jt.kind, .string t.jt.name, .slice t.ad t.jt.ends.length t.cap])) (ht : t.ad = some ⟨eb, 0, none⟩) (hte : w.ownsRow base 75 2 (.slice t.ad t.jt.ends.length t.cap) t.jt.ends.length (endCells t.jt.ends)) (hl : KLow H jv js) (hH : H ≤ eb) : RBx base (w'.setCell ⟨br, 2, none⟩ (.slice (some ⟨g, 0, none⟩) (js.length + 1) cp)) br line pv (.slice (some ⟨g, 0, none⟩) (js.length + 1) cp) ps (js ++ [t]) bp np pp be ne seen bn nn names := by
  obtain ⟨k1, k2, kf, eB, k3, k4, k5⟩ := h.keepRow h.kr.own hg
  have hx : ∀ o {v : Value}, w.cell? ⟨br, o, none⟩ = some v → w'.cell? ⟨br, o, none⟩ = some v := fun o v hv => (World.cell?_of_block (a := ⟨br, o, none⟩) eB).trans hv
  exact ⟨(box_set (by omega) _).trans (hx 0 h.c0), (box_set (by omega) _).trans k1, World.cell?_setCell_same _ _ _ k2, (box_set (by omega) _).trans (hx 3 h.c3), (box_set (by omega) _).trans (hx 4 h.c4), (box_set (by omega) _).trans (hx 5 h.c5), fun o => (World.frozen?_setCell _ _ _ _).trans (kf o), ownsRow_setCell_below (owns_kept h.op h.kr.own (by decide) hg) h.lo.1 _, (h.kr.add hg hown ht hte hl hH).setBelow h.lo.1 _,
    k3.of_block (Below.heap_setCell _ _ _ bp h.neP.symm), k4.of_block (Below.heap_setCell _ _ _ be h.neE.symm), k5.of_block (Below.heap_setCell _ _ _ bn h.neN.symm), h.lo, h.dif, by rw [World.size_setCell]; exact Nat.le_trans h.hi hg.size⟩
end
/-- What stays of the world while rows are laid behind. -/
theorem on_rowP {br bp be bn : Nat} {pv jv : Value} {w w' : World} (hg : w.grownBy w' pv.ownBlock) : On (Chg br bp be bn pv jv) w w' :=
  On.of_grown hg (fun _ e => .inr (.inr (.inr (.inr (.inl e)))))
theorem on_rowJ {br bp be bn : Nat} {pv jv : Value} {w w' : World} (hg : w.grownBy w' jv.ownBlock) : On (Chg br bp be bn pv jv) w w' :=
  On.of_grown hg (fun _ e => .inr (.inr (.inr (.inr (.inr e)))))
/-- The names of the joints that have one. -/
def namesJ (js : List Jt) : List (List UInt8) := (js.filter fun j => decide (3 ≤ j.kind)).map fun j => bs j.name
/-- The reader between two lines. -/
def RBk (base : Nat) (wr : World) (br : Nat) (line : Int) (pv jv : Value) (ps : List Pc) (js : List Jr) (bp be bn : Nat) : Prop :=
  RBx base wr br line pv jv ps js bp ps.length ps be (allEnds (js.map (·.jt))).length (allEnds (js.map (·.jt))) bn (namesJ (js.map (·.jt))).length (namesJ (js.map (·.jt)))
end Go.Proofs.YtcodpnkfpmjleaaGreatDoor

/- impl: a line that tells a joint, plain. Own work. -/
namespace Go.Proofs.YtcodpnkfpmjleaaGreatDoor
open Go.RowKit Go.Sort
set_option maxHeartbeats 4000000
set_option maxRecDepth 100000

/-- A joint whose kind is read. -/
def jointR (N : Nt) (kd : Nat) (ws : List Bl) : Int × Nt :=
  if kd < 3 then jointE N kd (sb []) ws
  else match ws with
    | [] => (1, N)
    | a :: es => if nm (sb a) = true then jointE N kd (sb a) es else (1, N)
theorem jointL_R (N : Nt) (k : Bl) (ws : List Bl) (h : kindW k ≠ 0) : jointL N (k :: ws) = jointR N (kindW k) ws := by
  unfold jointL jointR
  dsimp only
  rw [if_neg h]
  cases ws <;> rfl
theorem jointL_none (N : Nt) (k : Bl) (ws : List Bl) (h : kindW k = 0) : jointL N (k :: ws) = (1, N) := by
  unfold jointL
  dsimp only
  rw [if_pos h]
theorem clash_eq (N : Nt) : ∀ (es pre : List (Int × Int)), clashE N pre es = clashS (allEnds N.jts ++ pre) es
  | [], _ => rfl
  | e :: es, pre => by
    rw [clashE, clashS, clash_eq N es (pre ++ [e]), List.append_assoc]
    congr 1
    unfold uses
    rw [Bool.eq_iff_iff]
    simp [List.count_pos_iff]
theorem clash_nil (N : Nt) (es : List (Int × Int)) : clashE N [] es = clashS (allEnds N.jts) es := by rw [clash_eq, List.append_nil]
/-- A joint of a kind without a name has none. -/
def JNm (js : List Jt) : Prop := ∀ j ∈ js, 3 ≤ j.kind ∨ j.name.size = 0
theorem names_any {js : List Jt} (h : JNm js) {s : ByteArray} (hs : s.size ≠ 0) : seenI (namesJ js) (bs s) = if js.any (fun j => j.name.toList == s.toList) = true then 1 else 0 := by
  unfold seenI namesJ
  congr 1
  rw [List.contains_iff_mem, List.any_eq_true, eq_iff_iff, List.mem_map]
  constructor
  · rintro ⟨j, hj, he⟩
    refine ⟨j, (List.mem_filter.1 hj).1, ?_⟩
    rw [beq_iff_eq, Lib.toList_data, Lib.toList_data]
    exact he
  · rintro ⟨j, hj, he⟩
    rw [beq_iff_eq, Lib.toList_data, Lib.toList_data] at he
    refine ⟨j, List.mem_filter.2 ⟨hj, ?_⟩, he⟩
    rcases h j hj with h3 | h0
    · simpa using h3
    · exfalso
      apply hs
      have h1 : (bs j.name).length = (bs s).length := by rw [show bs j.name = bs s from he]
      rw [bs_len, bs_len] at h1
      omega
theorem names_seen {js : List Jt} (h : JNm js) {s : ByteArray} (hs : s.size ≠ 0) : (seenI (namesJ js) (bs s) = 0 ↔ js.any (fun j => j.name.toList == s.toList) = false) ∧ (seenI (namesJ js) (bs s) = 1 ↔ js.any (fun j => j.name.toList == s.toList) = true) := by
  rw [names_any h hs]
  cases js.any (fun j => j.name.toList == s.toList) <;> simp
theorem JNm.piece {N : Nt} (h : JNm N.jts) (ws : List Bl) : JNm (pieceL N ws).2.jts := by
  unfold pieceL
  split
  · split
    · split <;> exact h
    · exact h
  · exact h
theorem JNm.jointE {N : Nt} (h : JNm N.jts) {kd : Nat} {name : ByteArray} (hk : 3 ≤ kd ∨ name.size = 0) (ws : List Bl) : JNm (jointE N kd name ws).2.jts := by
  unfold Go.Proofs.YtcodpnkfpmjleaaGreatDoor.jointE
  split
  · exact h
  split
  · exact h
  split
  · exact h
  split
  · exact h
  split
  · exact h
  · intro j hj
    rcases List.mem_append.1 hj with hj | hj
    · exact h j hj
    · rw [List.mem_singleton.1 hj]
      dsimp only
      omega
theorem JNm.joint {N : Nt} (h : JNm N.jts) (ws : List Bl) : JNm (jointL N ws).2.jts := by
  unfold jointL
  split
  · exact h
  · split
    · exact h
    · split
      · exact h.jointE (.inr (by rw [sb_size]; rfl)) _
      · split
        · exact h
        · split
          · exact h.jointE (.inl (by omega)) _
          · exact h
/-! ### What the ends of a line say -/
theorem ends_bad {N : Nt} {kd : Nat} {name : ByteArray} {es : List Bl} (h : es.length = kd) (hall : es.all okE = false) : jointE N kd name es = (1, N) := by
  rw [List.all_eq_false] at hall
  obtain ⟨x, hx, hno⟩ := hall
  refine jointE_one h hx ?_
  rw [endW_cut, endC, if_neg hno]
theorem endC_ne {N : Nt} {es : List Bl} (hall : es.all okE = true) : ∀ x ∈ es, ¬ (endW N x).1 = 1 := fun x hx => by
  rw [endW_cut, endC, if_pos (List.all_eq_true.1 hall x hx)]
  split <;> simp
theorem ends_late {N : Nt} {kd : Nat} {name : ByteArray} {es : List Bl} (h : es.length = kd) (hall : es.all okE = true) (hno : ∃ s ∈ es.map slE, (pieceIx ⟨N.pcs, []⟩ s.name).isSome = false) : jointE N kd name es = (3, N) := by
  refine jointE_late h (endC_ne hall) ?_
  obtain ⟨s, hs, hn⟩ := hno
  obtain ⟨x, hx, rfl⟩ := List.mem_map.1 hs
  have hp : pieceIx N (sb (nameE x)) = none := by
    have : pieceIx ⟨N.pcs, []⟩ (sb (nameE x)) = pieceIx N (sb (nameE x)) := rfl
    rw [← this]
    simpa [slE] using hn
  unfold lateE
  rw [if_pos]
  rw [List.any_eq_true]
  refine ⟨x, hx, ?_⟩
  rw [endW_cut, endC, if_pos (List.all_eq_true.1 hall x hx), hp]
  rfl
theorem ends_there {N : Nt} {es : List Bl} (hall : es.all okE = true) (hyes : ∀ s ∈ es.map slE, (pieceIx ⟨N.pcs, []⟩ s.name).isSome = true) : lateE N es = 0 ∧ endsE N es = (es.map slE).map (endS N.pcs) := by
  have hx : ∀ x ∈ es, endW N x = (0, endS N.pcs (slE x)) := fun x hx => by
    have h1 := hyes (slE x) (List.mem_map_of_mem hx)
    obtain ⟨p, hp⟩ := Option.isSome_iff_exists.1 h1
    have hp' : pieceIx N (sb (nameE x)) = some p := hp
    rw [endW_cut, endC, if_pos (List.all_eq_true.1 hall x hx), hp']
    show (0, ((p : Int), sideV x)) = (0, (ixP N.pcs (slE x).name, sideV x))
    unfold ixP
    rw [hp]
    rfl
  refine ⟨?_, ?_⟩
  · unfold lateE
    rw [if_neg]
    rw [List.any_eq_true]
    rintro ⟨x, hxm, h3⟩
    rw [hx x hxm] at h3
    simp at h3
  · unfold endsE
    rw [List.map_map]
    exact List.map_congr_left fun x hxm => by rw [hx x hxm]; rfl
theorem ixP_bd (ps : List Pc) (s : ByteArray) (h : ps.length ≤ 100000) : 0 ≤ ixP ps s ∧ ixP ps s ≤ 100000 := by
  unfold ixP
  cases hp : pieceIx ⟨ps, []⟩ s with
  | none => simp
  | some i =>
    have hi : i < ps.length := by
      unfold pieceIx at hp
      exact (List.findIdx?_eq_some_iff_findIdx_eq.1 hp).1
    simp
    omega
theorem wf_ends {ps : List Pc} (h : ps.length ≤ 100000) (es : List Bl) : ∀ e ∈ (es.map slE).map (endS ps), Wf2 e := fun e he => by
  obtain ⟨s, hs, rfl⟩ := List.mem_map.1 he
  obtain ⟨x, hx, rfl⟩ := List.mem_map.1 hs
  have h1 := ixP_bd ps (slE x).name h
  have h2 : sideV x = 0 ∨ sideV x = 1 := by unfold sideV; split <;> simp
  unfold Wf2 endS
  dsimp only
  refine ⟨?_, ?_⟩
  · simp only [Lit.wf, IntKind.min, IntKind.max, IntKind.bits, IntKind.signed, Bool.and_eq_true, decide_eq_true_eq]
    simp
    omega
  · have h3 : (slE x).side = sideV x := rfl
    rw [h3]
    rcases h2 with h2 | h2 <;> rw [h2] <;> decide
/-! ### A joint's kind -/
/-- What impl.kindOf answers, and its two methods. -/
theorem kind_facts (kd : Nat) (h : 1 ≤ kd ∧ kd ≤ 4) : ∃ (T Fn Fs : Nat), (∀ w, Calls Tryz.prog 61 #[.int .i64 kd] w fun e w' => e = .returned (.iface T (.agg #[])) ∧ w = w') ∧
    (∀ w, (method 403 T (.agg #[]) "loop.example/ballast/impl.named").run Tryz.prog w = .ok (Fn, .agg #[]) w) ∧ (∀ w, (method 403 T (.agg #[]) "loop.example/ballast/impl.size").run Tryz.prog w = .ok (Fs, .agg #[]) w) ∧
    (∀ args w, (callFunc Fn args).run Tryz.prog w = .ok (.enter Fn args) w) ∧ (∀ args w, (callFunc Fs args).run Tryz.prog w = .ok (.enter Fs args) w) ∧
    (∀ w, Calls Tryz.prog Fn #[.agg #[]] w fun e w' => e = .returned (.bool (decide (3 ≤ kd))) ∧ Below w.heap.size w w') ∧ (∀ w, Calls Tryz.prog Fs #[.agg #[]] w fun e w' => e = .returned (.int .i64 kd) ∧ Below w.heap.size w w') := by
  have hk : kd = 1 ∨ kd = 2 ∨ kd = 3 ∨ kd = 4 := by omega
  rcases hk with rfl | rfl | rfl | rfl
  · exact ⟨_, _, _, kindOf_1, mn_1, ms_1, fun _ _ => by kernel_rfl, fun _ _ => by kernel_rfl, named_1, size_1⟩
  · exact ⟨_, _, _, kindOf_2, mn_2, ms_2, fun _ _ => by kernel_rfl, fun _ _ => by kernel_rfl, named_2, size_2⟩
  · exact ⟨_, _, _, kindOf_3, mn_3, ms_3, fun _ _ => by kernel_rfl, fun _ _ => by kernel_rfl, named_3, size_3⟩
  · exact ⟨_, _, _, kindOf_4, mn_4, ms_4, fun _ _ => by kernel_rfl, fun _ _ => by kernel_rfl, named_4, size_4⟩
end Go.Proofs.YtcodpnkfpmjleaaGreatDoor

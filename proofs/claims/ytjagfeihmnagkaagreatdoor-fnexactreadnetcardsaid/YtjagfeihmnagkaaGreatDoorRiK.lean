/- impl: a line that tells a joint, plain. Own work. -/
import Derived.Test.YtjagfeihmnagkaaGreatDoorMxAL
import Derived.Test.YtjagfeihmnagkaaGreatDoorMxAM
namespace Go.Proofs.YtjagfeihmnagkaaGreatDoor
open Go.RowKit Go.Sort
set_option maxHeartbeats 4000000
set_option maxRecDepth 100000

/-- A joint whose kind is read. -/
def jointR (N : Nt) (kd : Nat) (ws : List Bl) : Int × Nt :=
  if kd < 3 then jointE N kd (sb []) ws
  else match ws with
    | [] => (1, N)
    | a :: es => if nm (sb a) = true then jointE N kd (sb a) es else (1, N)
theorem jointL_R (N : Nt) (k : Bl) (ws : List Bl) (h : kindW k ≠ 0) : jointL N (k :: ws) = jointR N (kindW k) ws := by
  unfold jointL jointR
  dsimp only
  rw [if_neg h]
  cases ws <;> rfl
theorem jointL_none (N : Nt) (k : Bl) (ws : List Bl) (h : kindW k = 0) : jointL N (k :: ws) = (1, N) := by
  unfold jointL
  dsimp only
  rw [if_pos h]
theorem clash_eq (N : Nt) : ∀ (es pre : List (Int × Int)), clashE N pre es = clashS (allEnds N.jts ++ pre) es
  | [], _ => rfl
  | e :: es, pre => by
    rw [clashE, clashS, clash_eq N es (pre ++ [e]), List.append_assoc]
    congr 1
    unfold uses
    rw [Bool.eq_iff_iff]
    simp [List.count_pos_iff]
theorem clash_nil (N : Nt) (es : List (Int × Int)) : clashE N [] es = clashS (allEnds N.jts) es := by rw [clash_eq, List.append_nil]
/-- A joint of a kind without a name has none. -/
def JNm (js : List Jt) : Prop := ∀ j ∈ js, 3 ≤ j.kind ∨ j.name.size = 0
theorem names_any {js : List Jt} (h : JNm js) {s : ByteArray} (hs : s.size ≠ 0) : seenI (namesJ js) (bs s) = if js.any (fun j => j.name.toList == s.toList) = true then 1 else 0 := by
  unfold seenI namesJ
  congr 1
  rw [List.contains_iff_mem, List.any_eq_true, eq_iff_iff, List.mem_map]
  constructor
  · rintro ⟨j, hj, he⟩
    refine ⟨j, (List.mem_filter.1 hj).1, ?_⟩
    rw [beq_iff_eq, Lib.toList_data, Lib.toList_data]
    exact he
  · rintro ⟨j, hj, he⟩
    rw [beq_iff_eq, Lib.toList_data, Lib.toList_data] at he
    refine ⟨j, List.mem_filter.2 ⟨hj, ?_⟩, he⟩
    rcases h j hj with h3 | h0
    · simpa using h3
    · exfalso
      apply hs
      have h1 : (bs j.name).length = (bs s).length := by rw [show bs j.name = bs s from he]
      rw [bs_len, bs_len] at h1
      omega
theorem names_seen {js : List Jt} (h : JNm js) {s : ByteArray} (hs : s.size ≠ 0) : (seenI (namesJ js) (bs s) = 0 ↔ js.any (fun j => j.name.toList == s.toList) = false) ∧ (seenI (namesJ js) (bs s) = 1 ↔ js.any (fun j => j.name.toList == s.toList) = true) := by
  rw [names_any h hs]
  cases js.any (fun j => j.name.toList == s.toList) <;> simp
theorem JNm.piece {N : Nt} (h : JNm N.jts) (ws : List Bl) : JNm (pieceL N ws).2.jts := by
  unfold pieceL
  split
  · split
    · split <;> exact h
    · exact h
  · exact h
theorem JNm.jointE {N : Nt} (h : JNm N.jts) {kd : Nat} {name : ByteArray} (hk : 3 ≤ kd ∨ name.size = 0) (ws : List Bl) : JNm (jointE N kd name ws).2.jts := by
  unfold Go.Proofs.YtjagfeihmnagkaaGreatDoor.jointE
  split
  · exact h
  split
  · exact h
  split
  · exact h
  split
  · exact h
  split
  · exact h
  · intro j hj
    rcases List.mem_append.1 hj with hj | hj
    · exact h j hj
    · rw [List.mem_singleton.1 hj]
      dsimp only
      omega
theorem JNm.joint {N : Nt} (h : JNm N.jts) (ws : List Bl) : JNm (jointL N ws).2.jts := by
  unfold jointL
  split
  · exact h
  · split
    · exact h
    · split
      · exact h.jointE (.inr (by rw [sb_size]; rfl)) _
      · split
        · exact h
        · split
          · exact h.jointE (.inl (by omega)) _
          · exact h
/-! ### What the ends of a line say -/
theorem ends_bad {N : Nt} {kd : Nat} {name : ByteArray} {es : List Bl} (h : es.length = kd) (hall : es.all okE = false) : jointE N kd name es = (1, N) := by
  rw [List.all_eq_false] at hall
  obtain ⟨x, hx, hno⟩ := hall
  refine jointE_one h hx ?_
  rw [endW_cut, endC, if_neg hno]
theorem endC_ne {N : Nt} {es : List Bl} (hall : es.all okE = true) : ∀ x ∈ es, ¬ (endW N x).1 = 1 := fun x hx => by
  rw [endW_cut, endC, if_pos (List.all_eq_true.1 hall x hx)]
  split <;> simp
theorem ends_late {N : Nt} {kd : Nat} {name : ByteArray} {es : List Bl} (h : es.length = kd) (hall : es.all okE = true) (hno : ∃ s ∈ es.map slE, (pieceIx ⟨N.pcs, []⟩ s.name).isSome = false) : jointE N kd name es = (3, N) := by
  refine jointE_late h (endC_ne hall) ?_
  obtain ⟨s, hs, hn⟩ := hno
  obtain ⟨x, hx, rfl⟩ := List.mem_map.1 hs
  have hp : pieceIx N (sb (nameE x)) = none := by
    have : pieceIx ⟨N.pcs, []⟩ (sb (nameE x)) = pieceIx N (sb (nameE x)) := rfl
    rw [← this]
    simpa [slE] using hn
  unfold lateE
  rw [if_pos]
  rw [List.any_eq_true]
  refine ⟨x, hx, ?_⟩
  rw [endW_cut, endC, if_pos (List.all_eq_true.1 hall x hx), hp]
  rfl
theorem ends_there {N : Nt} {es : List Bl} (hall : es.all okE = true) (hyes : ∀ s ∈ es.map slE, (pieceIx ⟨N.pcs, []⟩ s.name).isSome = true) : lateE N es = 0 ∧ endsE N es = (es.map slE).map (endS N.pcs) := by
  have hx : ∀ x ∈ es, endW N x = (0, endS N.pcs (slE x)) := fun x hx => by
    have h1 := hyes (slE x) (List.mem_map_of_mem hx)
    obtain ⟨p, hp⟩ := Option.isSome_iff_exists.1 h1
    have hp' : pieceIx N (sb (nameE x)) = some p := hp
    rw [endW_cut, endC, if_pos (List.all_eq_true.1 hall x hx), hp']
    show (0, ((p : Int), sideV x)) = (0, (ixP N.pcs (slE x).name, sideV x))
    unfold ixP
    rw [hp]
    rfl
  refine ⟨?_, ?_⟩
  · unfold lateE
    rw [if_neg]
    rw [List.any_eq_true]
    rintro ⟨x, hxm, h3⟩
    rw [hx x hxm] at h3
    simp at h3
  · unfold endsE
    rw [List.map_map]
    exact List.map_congr_left fun x hxm => by rw [hx x hxm]; rfl
theorem ixP_bd (ps : List Pc) (s : ByteArray) (h : ps.length ≤ 100000) : 0 ≤ ixP ps s ∧ ixP ps s ≤ 100000 := by
  unfold ixP
  cases hp : pieceIx ⟨ps, []⟩ s with
  | none => simp
  | some i =>
    have hi : i < ps.length := by
      unfold pieceIx at hp
      exact (List.findIdx?_eq_some_iff_findIdx_eq.1 hp).1
    simp
    omega
theorem wf_ends {ps : List Pc} (h : ps.length ≤ 100000) (es : List Bl) : ∀ e ∈ (es.map slE).map (endS ps), Wf2 e := fun e he => by
  obtain ⟨s, hs, rfl⟩ := List.mem_map.1 he
  obtain ⟨x, hx, rfl⟩ := List.mem_map.1 hs
  have h1 := ixP_bd ps (slE x).name h
  have h2 : sideV x = 0 ∨ sideV x = 1 := by unfold sideV; split <;> simp
  unfold Wf2 endS
  dsimp only
  refine ⟨?_, ?_⟩
  · simp only [Lit.wf, IntKind.min, IntKind.max, IntKind.bits, IntKind.signed, Bool.and_eq_true, decide_eq_true_eq]
    simp
    omega
  · have h3 : (slE x).side = sideV x := rfl
    rw [h3]
    rcases h2 with h2 | h2 <;> rw [h2] <;> decide
/-! ### A joint's kind -/
/-- What impl.kindOf answers, and its two methods. -/
theorem kind_facts (kd : Nat) (h : 1 ≤ kd ∧ kd ≤ 4) : ∃ (T Fn Fs : Nat), (∀ w, Calls Tryz.prog 66 #[.int .i64 kd] w fun e w' => e = .returned (.iface T (.agg #[])) ∧ w = w') ∧
    (∀ w, (method 303 T (.agg #[]) "loop.example/ballast/impl.named").run Tryz.prog w = .ok (Fn, .agg #[]) w) ∧ (∀ w, (method 303 T (.agg #[]) "loop.example/ballast/impl.size").run Tryz.prog w = .ok (Fs, .agg #[]) w) ∧
    (∀ args w, (callFunc Fn args).run Tryz.prog w = .ok (.enter Fn args) w) ∧ (∀ args w, (callFunc Fs args).run Tryz.prog w = .ok (.enter Fs args) w) ∧
    (∀ w, Calls Tryz.prog Fn #[.agg #[]] w fun e w' => e = .returned (.bool (decide (3 ≤ kd))) ∧ Below w.heap.size w w') ∧ (∀ w, Calls Tryz.prog Fs #[.agg #[]] w fun e w' => e = .returned (.int .i64 kd) ∧ Below w.heap.size w w') := by
  have hk : kd = 1 ∨ kd = 2 ∨ kd = 3 ∨ kd = 4 := by omega
  rcases hk with rfl | rfl | rfl | rfl
  · exact ⟨_, _, _, kindOf_1, mn_1, ms_1, fun _ _ => by kernel_rfl, fun _ _ => by kernel_rfl, named_1, size_1⟩
  · exact ⟨_, _, _, kindOf_2, mn_2, ms_2, fun _ _ => by kernel_rfl, fun _ _ => by kernel_rfl, named_2, size_2⟩
  · exact ⟨_, _, _, kindOf_3, mn_3, ms_3, fun _ _ => by kernel_rfl, fun _ _ => by kernel_rfl, named_3, size_3⟩
  · exact ⟨_, _, _, kindOf_4, mn_4, ms_4, fun _ _ => by kernel_rfl, fun _ _ => by kernel_rfl, named_4, size_4⟩
end Go.Proofs.YtjagfeihmnagkaaGreatDoor

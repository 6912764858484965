import Derived.Test.YteapmddadieohaaMxAF
import Derived.Test.YteapmddadieohaaMxAO
import Derived.Test.YteapmddadieohaaMxAP
namespace Go.Proofs.Yteapmddadieohaa
open Go.RowKit
set_option maxHeartbeats 1000000

theorem jointOk_any (j : Jt) (a : Option Addr) (cap n : Nat) (w : World) (hn : n ≤ 1048576) (hl : j.ends.length ≤ 1048576) (he : EndsAt w a j.ends) :
    Calls Try.prog 61 #[.agg #[.int .i64 j.kind, .string j.name, .slice a j.ends.length cap], .int .i64 n] w fun e w' =>
    e = .returned (.bool (!jb3 n j)) ∧ Below w.heap.size w w' := by
  by_cases h : j.kind < 1 ∨ 4 < j.kind
  · rw [jb3_none h]
    exact jointOk_none _ h _ _ _ _ _ _
  · have hk : j.kind = 1 ∨ j.kind = 2 ∨ j.kind = 3 ∨ j.kind = 4 := by omega
    rcases hk with hk | hk | hk | hk
    · rw [jb3_some hk (by omega) (by omega), hk]
      exact jointOk_1 _ _ _ _ _ _ hn hl he
    · rw [jb3_some hk (by omega) (by omega), hk]
      exact jointOk_2 _ _ _ _ _ _ hn hl he
    · rw [jb3_some hk (by omega) (by omega), hk]
      exact jointOk_3 _ _ _ _ _ _ hn hl he
    · rw [jb3_some hk (by omega) (by omega), hk]
      exact jointOk_4 _ _ _ _ _ _ hn hl he

theorem jointNameOk_any (j : Jt) (a : Option Addr) (n cap : Nat) (w : World) (hk : 1 ≤ j.kind ∧ j.kind ≤ 4) (hs : j.name.size ≤ 1048576) :
    Calls Try.prog 62 #[.agg #[.int .i64 j.kind, .string j.name, .slice a n cap]] w fun e w' =>
    e = .returned (.bool (jnOk j)) ∧ Below w.heap.size w w' := by
  have hk : j.kind = 1 ∨ j.kind = 2 ∨ j.kind = 3 ∨ j.kind = 4 := by omega
  rcases hk with hk | hk | hk | hk
  · rw [jnOk, hk]; exact jointNameOk_1 _ _ _ _ _
  · rw [jnOk, hk]; exact jointNameOk_2 _ _ _ _ _
  · rw [jnOk, hk]; exact jointNameOk_3 _ _ _ _ _ hs
  · rw [jnOk, hk]; exact jointNameOk_4 _ _ _ _ _ hs

theorem wrongJoint_any (a a' : Option Addr) (n cap cap' : Nat) (js : List Jt) (w : World) (hn : n ≤ 1048576) (hl : js.length ≤ 1048576) (hm : ∀ j ∈ js, j.name.size ≤ 1048576 ∧ j.ends.length ≤ 1048576) (hj : JtsAt w a' js) :
    Calls Try.prog 49 #[.agg #[.slice a n cap, .slice a' js.length cap']] w fun e w' =>
    e = .returned (.int .i64 (firstI (jtBad3 n js) js.length)) ∧ Below w.heap.size w w' := by
  have HJ := hide hj
  have HM := hide hm
  clear hj hm
  go_enter Try.func49, Try.ntmps49
  go_wp2_with fail
  have hbW : Below w.heap.size w (w.alloc (.cells #[.slice a n cap, .slice a' js.length cap'] 26)) := (Below.refl _ _).alloc (Nat.le_refl _) _
  go_loopw [3, 4, 8] (fun _ _ i wr => ∃ (k : Nat), k ≤ js.length ∧ i = .int .i64 k ∧ (∀ j, j < k → jtBad3 n js j = false) ∧ wr.cell? ⟨w.heap.size, 0, none⟩ = some (.slice a n cap) ∧ Below w.heap.size w wr) (fun _ _ i _ => js.length - (intOf i).toNat)
  case atStart => exact ⟨0, Nat.zero_le _, rfl, by intro j hj; omega, by simp [go_sem], hbW⟩
  case round =>
    obtain ⟨k, hk, rfl, hall, n0, hb⟩ := hrel
    have HA := hide hall
    clear hall
    have hz := cell_lt n0
    by_cases hlt : k < js.length
    · obtain ⟨b, off, ea, ec, rfl, c0, c1, c2, ce⟩ := (JtsAt.later HJ.out hb) k hlt
      have CE := hide ce
      have hblt := cell_lt c0
      have hm := HM.out _ (List.getElem_mem hlt)
      clear ce
      go_wp2_with fail
      refine (jointOk_any js[k] ea ec n _ hn hm.2 (CE.out.later ((Below.refl _ _).alloc (Nat.le_refl _) _))).mono ?_
      rintro e w1 ⟨rfl, hb1⟩
      have hbA : Below wr.heap.size wr w1 := ((Below.refl _ _).alloc (Nat.le_refl _) _).trans (hb1.mono (by simp))
      have hb2 := hb.trans (hbA.mono hb.size)
      have n0' := cell_later' hbA n0
      cases hbad : jb3 n js[k]
      · have HB := hide hbad
        clear hbad
        go_wp2_with fail
        go_roundw
        case rel =>
          refine ⟨k + 1, by omega, by go_num, ?_, n0', hb2⟩
          intro j hj
          by_cases e : j = k
          · subst e; rw [jtBad3_jb3 hlt]; exact HB.out
          · exact HA.out j (by omega)
        case measure => simp [intOf]; omega
      · have HB := hide hbad
        clear hbad
        go_wp2_with fail
        go_ret
        exact ⟨ret_i (firstI_some hlt (by rw [jtBad3_jb3 hlt]; exact HB.out) HA.out).symm, hb2⟩
    · go_wp2_with fail
      go_ret
      exact ⟨ret_i (firstI_none (fun j hj => HA.out j (by omega))).symm, hb⟩

def seenJ (js : List Jt) (k : Nat) : List (List UInt8) := ((js.take k).filter (fun j => !j.name.toList.isEmpty)).map (·.name.data.toList)

theorem seenJ_succ (js : List Jt) (k : Nat) (hk : k < js.length) : seenJ js (k + 1) = if js[k].name.toList.isEmpty then seenJ js k else seenJ js k ++ [js[k].name.data.toList] := by
  unfold seenJ
  rw [List.take_succ_eq_append_getElem hk, List.filter_append, List.map_append]
  by_cases h : js[k].name.toList.isEmpty = true <;> simp [h]

theorem seenJ_empty (js : List Jt) (k : Nat) (s : ByteArray) (h : s.toList.isEmpty = true) : seenI (seenJ js k) s.data.toList = 0 := by
  unfold seenI
  rw [if_neg]
  intro hc
  rw [List.contains_iff_exists_mem_beq] at hc
  obtain ⟨x, hx, hb⟩ := hc
  unfold seenJ at hx
  rw [List.mem_map] at hx
  obtain ⟨j, hj, rfl⟩ := hx
  have h2 := (List.mem_filter.1 hj).2
  have h3 := beq_iff_eq.1 hb
  rw [Lib.toList_data] at h h2
  rw [← h3, h] at h2
  simp at h2

theorem nm_nonempty {s : ByteArray} (h : nm s = true) : s.toList.isEmpty = false := by
  simp [nm] at h
  rw [Lib.toList_data]
  rw [Bool.eq_false_iff]
  intro hc
  have : s.data.toList = [] := by simpa using hc
  have : s.size = 0 := by simp [ByteArray.size, ← Array.length_toList, this]
  omega

theorem seenJ_named (js : List Jt) (k : Nat) (s : ByteArray) (h : nm s = true) : seenI (seenJ js k) s.data.toList = if (js.take k).any (fun q => q.name.toList == s.toList) then 1 else 0 := by
  have hne := nm_nonempty h
  unfold seenI
  congr 1
  rw [eq_iff_iff, List.contains_iff_exists_mem_beq, List.any_eq_true]
  unfold seenJ
  simp only [List.mem_map, List.mem_filter]
  constructor
  · rintro ⟨x, ⟨q, ⟨hq, _⟩, rfl⟩, hb⟩
    refine ⟨q, hq, ?_⟩
    rw [Lib.toList_data, Lib.toList_data]
    simpa using (beq_iff_eq.1 hb).symm
  · rintro ⟨q, hq, hb⟩
    have he : q.name.toList = s.toList := beq_iff_eq.1 hb
    refine ⟨_, ⟨q, ⟨hq, by rw [he, hne]; rfl⟩, rfl⟩, ?_⟩
    rw [Lib.toList_data, Lib.toList_data] at he
    rw [he]; simp
end Go.Proofs.Yteapmddadieohaa

namespace Go.Proofs.Yteapmddadieohaa
open Go.RowKit
set_option maxHeartbeats 1000000

theorem SI.mono {w : World} {b n n' seen} (h : SI w b n seen) (hn : n ≤ n') : SI w b n' seen := by
  obtain ⟨D, h, h2⟩ := h
  exact ⟨D, h.mono hn, h2⟩

theorem jtBad4_bad {js : List Jt} {k : Nat} (hk : k < js.length) (h : jnOk js[k] = false) : jtBad4 js k = true := by
  rw [jtBad4_eq hk]
  unfold jnOk at h
  by_cases h3 : js[k].kind < 3
  · rw [if_pos h3] at h ⊢; rw [h]; rfl
  · rw [if_neg h3] at h ⊢; rw [h]; rfl

theorem wrongJointName_any (a : Option Addr) (cap n : Nat) (js : List Jt) (w : World) (hl : js.length ≤ 1048576) (hm : ∀ j ∈ js, j.name.size ≤ 1048576 ∧ j.ends.length ≤ 1048576) (h3 : ∀ k, k < js.length → jtBad3 n js k = false) (hj : JtsAt w a js) :
    Calls Try.prog 50 #[.slice a js.length cap] w fun e w' =>
    e = .returned (.int .i64 (firstI (jtBad4 js) js.length)) ∧ Below w.heap.size w w' := by
  have HJ := hide hj
  have HM := hide hm
  have H3 := hide h3
  clear hj hm h3
  have hmm := @run_makeMap Try.prog
  go_enter Try.func50, Try.ntmps50
  go_wp2_with fail
  go_loopw [4, 5, 9] (fun _ _ i wr => ∃ (k : Nat), k ≤ js.length ∧ i = .int .i64 k ∧ (∀ j, j < k → jtBad4 js j = false) ∧ Hid (SI wr w.heap.size k (seenJ js k)) ∧ Below w.heap.size w wr) (fun _ _ i _ => js.length - (intOf i).toNat)
  case atStart => exact ⟨0, Nat.zero_le _, rfl, by intro j hj; omega, SI.made w, (Below.refl _ _).alloc (Nat.le_refl _) _⟩
  case round =>
    obtain ⟨k, hk, rfl, hall, hSI, hb⟩ := hrel
    have HA := hide hall
    clear hall hmm
    by_cases hlt : k < js.length
    · obtain ⟨b, off, ea, ec, rfl, c0, c1, c2, ce⟩ := (JtsAt.later HJ.out hb) k hlt
      have hblt := cell_lt c0
      have hm := HM.out _ (List.getElem_mem hlt)
      have hkd := jb3_kind (n := n) (by rw [← jtBad3_jb3 hlt]; exact H3.out k hlt)
      clear ce
      go_wp2_with fail
      refine (jointNameOk_any js[k] ea _ ec _ hkd hm.1).mono ?_
      rintro e w1 ⟨rfl, hb1⟩
      have hbA : Below wr.heap.size wr w1 := ((Below.refl _ _).alloc (Nat.le_refl _) _).trans (hb1.mono (by simp))
      have hb2 := hb.trans (hbA.mono hb.size)
      have d1 := box_cell hb1 1 _ rfl
      have hSI1 := hSI.out.of_block (hbA.block _ hSI.out.lt)
      cases hok : jnOk js[k]
      · have HOK := hide hok
        clear hok hSI1
        go_wp2_with fail
        go_ret
        exact ⟨ret_i (firstI_some hlt (jtBad4_bad hlt HOK.out) HA.out).symm, hb2⟩
      · have HOK := hide hok
        clear hok
        by_cases hk3 : js[k].kind < 3
        · have hem : js[k].name.toList.isEmpty = true := by have := HOK.out; unfold jnOk at this; rwa [if_pos hk3] at this
          have hl := hSI1.look js[k].name (by unfold maxLen; omega)
          rw [seenJ_empty js k js[k].name hem] at hl
          have hem' : (!js[k].name.toList.isEmpty) = false := by rw [hem]; rfl
          have HEM := hide hem
          have HS1 := hide hSI1
          clear hem hSI1
          go_wp2_with fail
          go_roundw
          case rel =>
            refine ⟨k + 1, by omega, by go_num, ?_, ?_, hb2⟩
            · intro j hj
              by_cases e : j = k
              · subst e; rw [jtBad4_eq hlt, if_pos hk3, HEM.out]; rfl
              · exact HA.out j (by omega)
            · show SI _ _ _ _
              rw [seenJ_succ js k hlt, if_pos HEM.out]
              exact HS1.out.mono (by omega)
          case measure => simp [intOf]; omega
        · have hnm : nm js[k].name = true := by have := HOK.out; unfold jnOk at this; rwa [if_neg hk3] at this
          have hl := hSI1.look js[k].name (by unfold maxLen; omega)
          rw [seenJ_named js k js[k].name hnm] at hl
          have hne := nm_nonempty hnm
          have hne' : (!js[k].name.toList.isEmpty) = true := by rw [hne]; rfl
          have HNE := hide hne
          have HNM := hide hnm
          clear hne hnm
          cases hany : (js.take k).any (fun q => q.name.toList == js[k].name.toList)
          · rw [hany] at hl
            have HN := hide hany
            clear hany
            obtain ⟨w2, hput, hSI2, hg⟩ := hSI1.put (by unfold maxLen; omega) js[k].name (by unfold maxLen; omega)
            have HSI2 := hide hSI2
            have HG := hide hg
            clear hSI2 hg hSI1
            go_wp2_with fail
            go_roundw
            case rel =>
              refine ⟨k + 1, by omega, by go_num, ?_, ?_, hb2.grown HG.out hb2.size (fun j hj => by cases hj; exact Nat.le_refl _)⟩
              · intro j hj
                by_cases e : j = k
                · subst e; rw [jtBad4_eq hlt, if_neg (by omega), HN.out, HNM.out]; rfl
                · exact HA.out j (by omega)
              · show SI _ _ _ _
                rw [seenJ_succ js k hlt, if_neg (by rw [HNE.out]; simp)]
                exact HSI2.out
            case measure => simp [intOf]; omega
          · rw [hany] at hl
            have HN := hide hany
            clear hany hSI1
            go_wp2_with fail
            go_ret
            exact ⟨ret_i (firstI_some hlt (by rw [jtBad4_eq hlt, if_neg (show ¬ js[k].kind < 3 by omega), HN.out]; simp) HA.out).symm, hb2⟩
    · go_wp2_with fail
      go_ret
      exact ⟨ret_i (firstI_none (fun j hj => HA.out j (by omega))).symm, hb⟩

/-- What seatsOf has after the ends in the list: the last place of each and how often it stands. -/
def seatAdd (g : Int × Int → Option (Int × Int × Int)) (e : Int × Int) (j i : Int) : Int × Int → Option (Int × Int × Int) :=
  fun x => if x = e then some (j, i, ((g e).getD (0, 0, 0)).2.2 + 1) else g x
def seatEnds (g : Int × Int → Option (Int × Int × Int)) (j : Int) (es : List (Int × Int)) : Nat → (Int × Int → Option (Int × Int × Int))
  | 0 => g
  | i + 1 => match es[i]? with
    | some e => seatAdd (seatEnds g j es i) e j i
    | none => seatEnds g j es i
def seatTo (js : List Jt) : Nat → (Int × Int → Option (Int × Int × Int))
  | 0 => fun _ => none
  | k + 1 => match js[k]? with
    | some j => seatEnds (seatTo js k) k j.ends j.ends.length
    | none => seatTo js k
end Go.Proofs.Yteapmddadieohaa

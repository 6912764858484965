import Derived.Test.YtcodpnkfpmjleaaGreatDoorTo
import Derived.Test.YtcodpnkfpmjleaaGreatDoorMxAA
import Derived.Deep.Light
import Derived.Deep.QuietTactic
import Derived.BigQuiet
namespace Go.Proofs.YtcodpnkfpmjleaaGreatDoor
open Go.RowKit
set_option maxHeartbeats 1000000

theorem conv1 (wr : World) (x : Int) : (convert 22 9 (.slice (some ⟨wr.heap.size, 0, none⟩) 1 1)).run Tryz.prog (wr.alloc (.cells #[.int .u8 x] 5)) = .ok (.string (ByteArray.empty.push (UInt8.ofNat x.toNat))) (wr.alloc (.cells #[.int .u8 x] 5)) := by
  rw [run_convert_bytes_string _ _ _ _ _ _ _ Tryz.underlying22 Tryz.underlying5 Tryz.underlying9]
  rw [run_bytesToString _ _ _ _ [x] (by simp [loadCells, go_sem])]
  rfl

def md : Nat → Int → ByteArray → ByteArray
  | 0, _, s => s
  | f + 1, n, s => if n ≤ 0 then s else md f (n / 10) (ByteArray.empty.push (UInt8.ofNat (48 + n % 10).toNat) ++ s)

theorem md_fuel (f : Nat) : ∀ (g : Nat) (n : Int) (s : ByteArray), n.toNat < f → n.toNat < g → md f n s = md g n s := by
  induction f with
  | zero => intro g n s h; omega
  | succ f ih =>
    intro g n s hf hg
    match g, hg with
    | g + 1, hg =>
      by_cases hn : n ≤ 0
      · simp [md, hn]
      · rw [md, md, if_neg hn, if_neg hn]
        exact ih g (n / 10) _ (by omega) (by omega)

theorem size_dig (c : UInt8) (s : ByteArray) : (ByteArray.empty.push c ++ s).size = 1 + s.size := by
  rw [ByteArray.size_append, ByteArray.size_push]; rfl
end Go.Proofs.YtcodpnkfpmjleaaGreatDoor

namespace Go.Proofs.YtcodpnkfpmjleaaGreatDoor
open Go.RowKit
set_option maxHeartbeats 1000000

def dtext (n : Int) : ByteArray := if n = 0 then ⟨#[48]⟩ else md (n.toNat + 1) n ⟨#[]⟩

theorem md_size (f : Nat) : ∀ (n : Int) (s : ByteArray), (md f n s).size ≤ f + s.size := by
  induction f with
  | zero => intro n s; simp [md]
  | succ f ih =>
    intro n s
    rw [md]
    split
    · omega
    · have := ih (n / 10) (ByteArray.empty.push (UInt8.ofNat (48 + n % 10).toNat) ++ s)
      rw [size_dig] at this
      omega

theorem md_size10 (f : Nat) : ∀ (g : Nat) (n : Int) (s : ByteArray), n < 10 ^ g → (md f n s).size ≤ g + s.size := by
  induction f with
  | zero => intro g n s _; simp [md]
  | succ f ih =>
    intro g n s hg
    rw [md]
    split
    · omega
    · rename_i hn
      match g, hg with
      | 0, hg => simp at hg; omega
      | g + 1, hg =>
        have h2 : n / 10 < 10 ^ g := by
          rw [Int.pow_succ] at hg
          omega
        have := ih g (n / 10) (ByteArray.empty.push (UInt8.ofNat (48 + n % 10).toNat) ++ s) h2
        rw [size_dig] at this
        omega

theorem dtext_size (n : Int) (h : n ≤ 10000000) : (dtext n).size ≤ 8 := by
  unfold dtext
  split
  · decide
  · have := md_size10 (n.toNat + 1) 8 n ⟨#[]⟩ (by omega)
    have e : (ByteArray.mk #[]).size = 0 := rfl
    omega

set_option maxRecDepth 20000 in
theorem l2decimal_any (k : Int) (w : World) (h0 : 0 ≤ k) (h1 : k ≤ 10000000) :
    Calls Tryz.prog 26 #[.int .i64 k] w fun e w' =>
    e = .returned (.string (dtext k)) ∧ Below w.heap.size w w' := by
  by_cases hk : k = 0
  · subst hk
    go_enter Tryz.func26, Tryz.ntmps26
    go_wp2
    go_ret
    exact ⟨rfl, Below.refl _ _⟩
  · have hk' : (k == 0) = false := by rw [beq_eq_false_iff_ne]; exact hk
    have HM := hide (show dtext k = md (k.toNat + 1) k ⟨#[]⟩ by simp [dtext, hk])
    generalize hR : md (k.toNat + 1) k ⟨#[]⟩ = R at HM
    have HR := hide hR
    clear hR hk
    go_enter Tryz.func26, Tryz.ntmps26
    go_wp2
    go_loopw [0, 3] (fun i q wr => ∃ (n : Int) (s : ByteArray), 0 ≤ n ∧ i = .int .i64 n ∧ q = .string s ∧ n + s.size ≤ k ∧ Hid (md (n.toNat + 1) n s = R) ∧ Below w.heap.size w wr) (fun i _ _ => (intOf i).toNat)
    case atStart => exact ⟨k, ⟨#[]⟩, by omega, rfl, rfl, by simp [ByteArray.size], HR, Below.refl _ _⟩
    case round =>
      obtain ⟨n, s, hn, rfl, rfl, hs, hmd, hb⟩ := hrel
      by_cases hpos : 0 < n
      · have hcv := conv1 wr (48 + n % 10)
        go_wp2
        refine ⟨⟨n / 10, _, by omega, rfl, rfl, ?_, ?_, hb.alloc hb.size _⟩, ?_⟩
        · rw [size_dig]; omega
        · have h := hmd.out
          rw [md, if_neg (by omega)] at h
          show md _ _ _ = _
          rw [← h]
          exact md_fuel _ _ _ _ (by omega) (by omega)
        · simp [intOf]; omega
      · have h := hmd.out
        rw [md, if_pos (by omega)] at h
        have HH := hide h
        clear h
        go_wp2
        go_ret
        refine ⟨?_, hb⟩
        rw [HM.out, ← HH.out]
        rfl
end Go.Proofs.YtcodpnkfpmjleaaGreatDoor

namespace Go.Proofs.YtcodpnkfpmjleaaGreatDoor
open Go.RowKit
set_option maxHeartbeats 400000

theorem ret_b {a b : Bool} (h : a = b) : Ending.returned (.bool a) = .returned (.bool b) := by rw [h]

theorem l1in_any (x a b : Int) (w : World) : Calls Tryz.prog 45 #[.int .i64 x, .int .i64 a, .int .i64 b] w fun e w' =>
    e = .returned (.bool (inR x a b)) ∧ w = w' := by
  by_cases h : a ≤ x
  all_goals
    go_enter Tryz.func45, Tryz.ntmps45
    go_wp2
    go_ret
    exact ⟨ret_b (by simp [inR]; try omega), rfl⟩

theorem l1name_any (s : ByteArray) (w : World) (hs : s.size ≤ 1048576) : Calls Tryz.prog 44 #[.string s] w fun e w' =>
    e = .returned (.bool (nm s)) ∧ w = w' := by
  go_enter Tryz.func44, Tryz.ntmps44
  go_wp2
  go_loop [3] (fun i => ∃ k : Nat, k ≤ s.size ∧ i = .int .i64 k ∧ (∀ j (hj : j < s.size), j < k → byteOk s[j] = true)) (fun i => s.size - (intOf i).toNat)
  case atStart => exact ⟨0, Nat.zero_le _, rfl, by omega⟩
  case round =>
    obtain ⟨k, hk, rfl, hall⟩ := hrel
    have HA := hide hall
    clear hall
    by_cases hlt : k < s.size
    · go_wp2
      all_goals first
        | (go_ret
           refine ⟨ret_b (nm_bad s k hlt ?_).symm, rfl⟩
           go_light
           refine byteOk_false ?_
           simp at *
           omega)
        | (refine ⟨⟨k + 1, by omega, by go_num, ?_⟩, by simp [intOf]; omega⟩
           intro j hj hjk
           by_cases e : j = k
           · subst e
             go_light
             refine byteOk_true ?_
             simp at *
             omega
           · exact HA.out j hj (by omega))
    · have hn := nm_all s (fun j hj => HA.out j hj (by omega))
      have HN := hide hn
      clear hn
      go_wp2
      all_goals go_ret
      all_goals refine ⟨ret_b ?_, rfl⟩
      all_goals rw [HN.out]
      all_goals go_light
      all_goals (rw [Bool.eq_iff_iff]; simp; omega)
end Go.Proofs.YtcodpnkfpmjleaaGreatDoor

namespace Go.Proofs.YtcodpnkfpmjleaaGreatDoor
open Go.RowKit
set_option maxHeartbeats 400000

theorem l1end_any (a a' : Option Addr) (n m cap cap' : Nat) (p s : Int) (w : World) (hn : n ≤ 1048576) :
    Calls Tryz.prog 80 #[.agg #[.slice a n cap, .slice a' m cap'], .agg #[.int .i64 p, .int .i64 s]] w fun e w' =>
    e = .returned (.bool (endOk n (p, s))) ∧ Below w.heap.size w w' := by
  cases h : inR p 0 ((n : Int) - 1)
  · have H := hide h
    clear h
    go_enter Tryz.func80, Tryz.ntmps80
    go_wp2_with fail
    refine (l1in_any _ _ _ _).mono ?_
    rintro e w1 ⟨rfl, rfl⟩
    rw [H.out]
    go_wp2_with fail
    go_ret
    exact ⟨ret_b (by simp [endOk, H.out]), ((Below.refl _ _).alloc (Nat.le_refl _) _).alloc (by simp) _⟩
  · have H := hide h
    clear h
    go_enter Tryz.func80, Tryz.ntmps80
    go_wp2_with fail
    refine (l1in_any _ _ _ _).mono ?_
    rintro e w1 ⟨rfl, rfl⟩
    rw [H.out]
    go_wp2_with fail
    refine (l1in_any _ _ _ _).mono ?_
    rintro e w1 ⟨rfl, rfl⟩
    go_wp2_with fail
    go_ret
    exact ⟨ret_b (by simp [endOk, H.out]), ((Below.refl _ _).alloc (Nat.le_refl _) _).alloc (by simp) _⟩

theorem uses_le (js : List Jt) (e : Int × Int) (h : ∀ j ∈ js, j.ends.length ≤ 1048576) : uses js e ≤ js.length * 1048576 := by
  induction js with
  | nil => simp [uses, allEnds]
  | cons j js ih =>
    have h1 := ih (fun x hx => h x (List.mem_cons_of_mem _ hx))
    have h2 := h j (List.mem_cons_self ..)
    have h3 := List.count_le_length (a := e) (l := j.ends)
    simp only [uses, allEnds, List.flatMap_cons, List.count_append, List.length_cons] at *
    omega

theorem uses_snoc (js : List Jt) (k : Nat) (hk : k < js.length) (e : Int × Int) : uses (js.take (k + 1)) e = uses (js.take k) e + js[k].ends.count e := by
  unfold uses allEnds
  rw [List.take_succ_eq_append_getElem hk, List.flatMap_append, List.count_append, List.flatMap_singleton]

theorem count_snoc (es : List (Int × Int)) (k : Nat) (hk : k < es.length) (e : Int × Int) : (es.take (k + 1)).count e = (es.take k).count e + if es[k] = e then 1 else 0 := by
  rw [List.take_succ_eq_append_getElem hk, List.count_append, List.count_singleton]
  simp

theorem l1uses_any (a a' : Option Addr) (n cap cap' : Nat) (js : List Jt) (p s : Int) (w : World) (hn : js.length ≤ 1048576) (hm : ∀ j ∈ js, j.ends.length ≤ 1048576) (hj : JtsAt w a' js) :
    Calls Tryz.prog 47 #[.agg #[.slice a n cap, .slice a' js.length cap'], .agg #[.int .i64 p, .int .i64 s]] w fun e w' =>
    e = .returned (.int .i64 (uses js (p, s))) ∧ Below w.heap.size w w' := by
  have HJ := hide hj
  have HM := hide hm
  clear hj hm
  go_enter Tryz.func47, Tryz.ntmps47
  go_wp2
  have hbW : Below w.heap.size w ((w.alloc (.cells #[.slice a n cap, .slice a' js.length cap'] 26)).alloc (.cells #[.int .i64 p, .int .i64 s] 75)) := ((Below.refl _ _).alloc (Nat.le_refl _) _).alloc (by simp) _
  go_loopw [5, 7, 9, 13] (fun q _ _ i wr => ∃ (k : Nat) (c : Nat), k ≤ js.length ∧ i = .int .i64 k ∧ q = .int .i64 c ∧ Hid (c = uses (js.take k) (p, s)) ∧ wr.cell? ⟨w.heap.size + 1, 0, none⟩ = some (.int .i64 p) ∧ wr.cell? ⟨w.heap.size + 1, 1, none⟩ = some (.int .i64 s) ∧ w.heap.size + 2 ≤ wr.heap.size ∧ Below w.heap.size w wr) (fun _ _ _ i _ => js.length - (intOf i).toNat)
  case atStart => exact ⟨0, 0, Nat.zero_le _, rfl, rfl, rfl, by simp [go_sem], by simp [go_sem], by simp, hbW⟩
  case round =>
    obtain ⟨k, c, hk, rfl, rfl, hc, e0, e1, hz, hb⟩ := hrel
    by_cases hlt : k < js.length
    · obtain ⟨b, off, ea, ec, rfl, c0, c1, c2, ce⟩ := (JtsAt.later HJ.out hb) k hlt
      have CE := hide ce
      have hm := HM.out _ (List.getElem_mem hlt)
      have hcb : c ≤ k * 1048576 := by
        rw [hc.out]
        have := uses_le (js.take k) (p, s) (fun j hj => HM.out j (List.mem_of_mem_take hj))
        rw [List.length_take_of_le hk] at this
        exact this
      clear ce
      go_wp2
      have hbA : Below wr.heap.size wr (wr.alloc (Obj.cells #[Value.int IntKind.i64 js[k].kind, Value.string js[k].name, Value.slice ea js[k].ends.length ec] 69)) := (Below.refl _ _).alloc (Nat.le_refl _) _
      go_loopw [5, 20] (fun q i wi => ∃ (t : Nat) (c' : Nat), t ≤ js[k].ends.length ∧ i = .int .i64 t ∧ q = .int .i64 c' ∧ Hid (c' = c + (js[k].ends.take t).count (p, s)) ∧ Below wr.heap.size wr wi) (fun _ i _ => js[k].ends.length - (intOf i).toNat)
      case atStart => exact ⟨0, c, Nat.zero_le _, rfl, rfl, by simp [Hid], hbA⟩
      case round =>
        obtain ⟨t, c', ht, rfl, rfl, hc', hbi⟩ := hrel
        have hcb' : c' ≤ k * 1048576 + 1048576 := by
          rw [hc'.out]
          have := List.count_le_length (a := (p, s)) (l := js[k].ends.take t)
          rw [List.length_take_of_le ht] at this
          omega
        have e0' := cell_keep hbi (by omega) e0
        have e1' := cell_keep hbi (by omega) e1
        by_cases hti : t < js[k].ends.length
        · obtain ⟨b2, off2, rfl, d0, d1⟩ := (EndsAt.later CE.out hbi) t hti
          have hzi : w.heap.size + 1 < wr.heap.size := Nat.lt_of_lt_of_le (Nat.lt_of_lt_of_le (by omega) hz) hbi.size
          have hcs := hide (count_snoc js[k].ends t hti (p, s))
          go_wp2
          · refine ⟨⟨t + 1, c' + 1, by omega, by go_num, by go_num, ?_, hbi.alloc hbi.size _⟩, by simp [intOf]; omega⟩
            show c' + 1 = _
            rw [hcs.out, if_pos (Prod.ext ‹_› ‹_›), hc'.out]; omega
          · refine ⟨⟨t + 1, c', by omega, by go_num, rfl, ?_, hbi.alloc hbi.size _⟩, by simp [intOf]; omega⟩
            show c' = _
            rw [hcs.out, if_neg (fun h => ‹¬ _› (congrArg Prod.snd h)), hc'.out]; omega
          · refine ⟨⟨t + 1, c', by omega, by go_num, rfl, ?_, hbi.alloc hbi.size _⟩, by simp [intOf]; omega⟩
            show c' = _
            rw [hcs.out, if_neg (fun h => ‹¬ _› (congrArg Prod.fst h)), hc'.out]; omega
        · go_wp2
          go_roundw
          case rel =>
            refine ⟨k + 1, c', by omega, by go_num, rfl, ?_, e0', e1', Nat.le_trans hz hbi.size, hb.trans (hbi.mono hb.size)⟩
            rw [uses_snoc js k hlt, hc'.out, hc.out, List.take_of_length_le (l := js[k].ends) (by omega)]
            rfl
          case measure => simp [intOf]; omega
    · go_wp2
      go_ret
      refine ⟨?_, hb⟩
      rw [hc.out, List.take_of_length_le (by omega)]
      rfl
end Go.Proofs.YtcodpnkfpmjleaaGreatDoor

namespace Go.Proofs.YtcodpnkfpmjleaaGreatDoor
open Go.RowKit
set_option maxHeartbeats 1000000

theorem l1joint_any (a a' : Option Addr) (n cap cap' : Nat) (js : List Jt) (k : Nat) (hk : k < js.length) (w : World) (hn : n ≤ 1048576) (hl : js.length ≤ 1048576) (hm : ∀ j ∈ js, j.name.size ≤ 1048576 ∧ j.ends.length ≤ 1048576) (hj : JtsAt w a' js) :
    Calls Tryz.prog 46 #[.agg #[.slice a n cap, .slice a' js.length cap'], .int .i64 k] w fun e w' =>
    e = .returned (.int .i64 (jcode n js k)) ∧ Below w.heap.size w w' := by
  obtain ⟨b, off, ea, ec, rfl, c0, c1, c2, ce⟩ := hj k hk
  have hblt := cell_lt c0
  have hmk := hm _ (List.getElem_mem hk)
  have HJ := hide hj
  have HM := hide hm
  have CE := hide ce
  have H3 := hide (jtBad3_eq (n := n) hk)
  have H4 := hide (jtBad4_eq hk)
  clear hj hm ce
  cases h1 : inR js[k].kind 1 4
  · have HK := hide h1
    clear h1
    go_enter Tryz.func46, Tryz.ntmps46
    go_wp2_with fail
    refine (l1in_any _ _ _ _).mono ?_
    rintro e w1 ⟨rfl, rfl⟩
    rw [HK.out]
    go_wp2_with fail
    go_ret
    refine ⟨ret_i ?_, ((Below.refl _ _).alloc (Nat.le_refl _) _).alloc (by simp) _⟩
    simp [jcode, H3.out, HK.out]
  have HK := hide h1
  have hkr : 1 ≤ js[k].kind ∧ js[k].kind ≤ 4 := by simpa [inR] using h1
  clear h1
  cases h2 : ((js[k].ends.length : Int) != js[k].kind)
  case true =>
    have H2 := hide h2
    go_enter Tryz.func46, Tryz.ntmps46
    go_wp2_with fail
    refine (l1in_any _ _ _ _).mono ?_
    rintro e w1 ⟨rfl, rfl⟩
    rw [HK.out]
    go_wp2_with fail
    go_ret
    refine ⟨ret_i ?_, ((Below.refl _ _).alloc (Nat.le_refl _) _).alloc (by simp) _⟩
    simp only [jcode, H3.out, H2.out]
    simp
  case false =>
    have H2 := hide h2
    go_enter Tryz.func46, Tryz.ntmps46
    go_wp2_with fail
    refine (l1in_any _ _ _ _).mono ?_
    rintro e w1 ⟨rfl, rfl⟩
    rw [HK.out]
    go_wp2_with fail
    have hbW : Below w.heap.size w ((w.alloc (.cells #[.slice a n cap, .slice (some ⟨b, off, none⟩) js.length cap'] 26)).alloc (.cells #[.int .i64 js[k].kind, .string js[k].name, .slice ea js[k].ends.length ec] 69)) := ((Below.refl _ _).alloc (Nat.le_refl _) _).alloc (by simp) _
    go_loopw [29] (fun i wr => ∃ (t : Nat), t ≤ js[k].ends.length ∧ i = .int .i64 t ∧ (∀ u (_ : u < t) (hu : u < js[k].ends.length), endOk n js[k].ends[u] = true) ∧ wr.cell? ⟨w.heap.size, 0, none⟩ = some (.slice a n cap) ∧ wr.cell? ⟨w.heap.size, 1, none⟩ = some (.slice (some ⟨b, off, none⟩) js.length cap') ∧ wr.cell? ⟨w.heap.size + 1, 0, none⟩ = some (.int .i64 js[k].kind) ∧ wr.cell? ⟨w.heap.size + 1, 1, none⟩ = some (.string js[k].name) ∧ wr.cell? ⟨w.heap.size + 1, 2, none⟩ = some (.slice ea js[k].ends.length ec) ∧ Below w.heap.size w wr) (fun i _ => js[k].ends.length - (intOf i).toNat)
    case atStart => exact ⟨0, Nat.zero_le _, rfl, by intro u hu; omega, by simp [go_sem], by simp [go_sem], by simp [go_sem], by simp [go_sem], by simp [go_sem], hbW⟩
    case round =>
      obtain ⟨t, ht, rfl, hall, n0, n1, j0, j1, j2, hb⟩ := hrel
      have HA := hide hall
      clear hall
      have hz0 := cell_lt n0
      have hz1 := cell_lt j0
      by_cases hti : t < js[k].ends.length
      · obtain ⟨b2, off2, rfl, d0, d1⟩ := (EndsAt.later CE.out hb) t hti
        go_wp2_with fail
        refine (l1end_any _ _ _ _ _ _ _ _ _ hn).mono ?_
        rintro e w1 ⟨rfl, hb1⟩
        have hbA : Below wr.heap.size wr w1 := ((Below.refl _ _).alloc (Nat.le_refl _) _).trans (hb1.mono (by simp))
        have n0' := cell_later' hbA n0
        have n1' := cell_later' hbA n1
        have j0' := cell_later' hbA j0
        have j1' := cell_later' hbA j1
        have j2' := cell_later' hbA j2
        have hb2 := hb.trans (hbA.mono hb.size)
        cases he : endOk n (js[k].ends[t].1, js[k].ends[t].2)
        · have HE := hide he
          clear he
          go_wp2_with fail
          go_ret
          refine ⟨ret_i ?_, hb2⟩
          have hany : js[k].ends.any (fun e => !endOk n e) = true := any_true' hti (by simp; exact HE.out)
          simp only [jcode, H3.out, hany]
          simp
        · have HE := hide he
          clear he
          go_wp2_with fail
          go_roundw
          case rel =>
            refine ⟨t + 1, by omega, by go_num, ?_, n0', n1', j0', j1', j2', hb2⟩
            intro u hu hu'
            by_cases e : u = t
            · subst e; exact HE.out
            · exact HA.out u (by omega) hu'
          case measure => simp [intOf]; omega
      · have hb3 : jtBad3 n js k = false := by
          rw [H3.out, HK.out, H2.out, any_false' (l := js[k].ends) (p := fun e => !endOk n e) (fun u hu => by simp [HA.out u (by omega) hu])]; rfl
        have HB3 := hide hb3
        clear hb3
        by_cases hk3 : js[k].kind < 3
        · cases hnm : (js[k].name.toList.isEmpty)
          · have HNM := hide hnm
            have hnm' : (!js[k].name.toList.isEmpty) = true := by rw [hnm]; rfl
            clear hnm
            go_wp2_with fail
            go_ret
            refine ⟨ret_i ?_, hb⟩
            rw [jcode, HB3.out, H4.out, if_pos hk3, HNM.out]; rfl
          · have HNM := hide hnm
            have hnm' : (!js[k].name.toList.isEmpty) = false := by rw [hnm]; rfl
            clear hnm
            go_wp2_with fail
            go_ret
            refine ⟨ret_i ?_, hb⟩
            rw [jcode, HB3.out, H4.out, if_pos hk3, HNM.out]; rfl
        · go_wp2_with fail
          refine (l1name_any js[k].name _ hmk.1).mono ?_
          rintro e w1 ⟨rfl, rfl⟩
          cases hnm : nm js[k].name
          · have HNM := hide hnm
            clear hnm
            go_wp2_with fail
            go_ret
            refine ⟨ret_i ?_, hb⟩
            rw [jcode, HB3.out, H4.out, if_neg (show ¬ js[k].kind < 3 by omega), HNM.out]; rfl
          · have HNM := hide hnm
            clear hnm
            go_wp2_with fail
            go_loopw [8] (fun i wi => ∃ (t : Nat), t ≤ k ∧ i = .int .i64 t ∧ (∀ u (_ : u < t) (hu : u < js.length), (js[u].name.toList == js[k].name.toList) = false) ∧ Below wr.heap.size wr wi) (fun i _ => k - (intOf i).toNat)
            case atStart => exact ⟨0, Nat.zero_le _, rfl, by intro u hu; omega, Below.refl _ _⟩
            case round =>
              obtain ⟨t2, ht2, rfl, hall2, hb2⟩ := hrel
              have HA2 := hide hall2
              clear hall2
              by_cases hti2 : t2 < k
              · obtain ⟨b2, off2, ea2, ec2, hab, d0, d1, d2, _⟩ := (JtsAt.later HJ.out (hb.trans (hb2.mono hb.size))) t2 (by omega)
                obtain ⟨rfl, rfl⟩ : b = b2 ∧ off = off2 := by simpa using hab
                clear hab
                have m1 := cell_later' hb2 n1
                have m2 := cell_later' hb2 j1
                go_wp2_with fail
                go_quiet (fail)
                go_wp2_with fail
                · go_ret
                  have heq : (js[t2].name.toList == js[k].name.toList) = true := by assumption
                  refine ⟨ret_i ?_, below_drewN (hb.trans (hb2.mono hb.size)) _⟩
                  rw [jcode, HB3.out, H4.out, if_neg (show ¬ js[k].kind < 3 by omega), HNM.out, any_take_true (l := js) (k := k) (u := t2) hti2 (by omega) heq]; rfl
                · have heq : (js[t2].name.toList == js[k].name.toList) = false := by assumption
                  refine ⟨⟨t2 + 1, by omega, by go_num, ?_, below_drewN hb2 _⟩, by simp [intOf]; omega⟩
                  intro u hu hu'
                  by_cases e : u = t2
                  · subst e; exact heq
                  · exact HA2.out u (by omega) hu'
              · go_wp2_with fail
                go_ret
                refine ⟨ret_i ?_, hb.trans (hb2.mono hb.size)⟩
                rw [jcode, HB3.out, H4.out, if_neg (show ¬ js[k].kind < 3 by omega), HNM.out, any_take_false (l := js) (k := k) (fun u hu hu' => HA2.out u (by omega) hu')]; rfl
end Go.Proofs.YtcodpnkfpmjleaaGreatDoor

import Derived.Test.YtcodpnkfpmjleaaGreatDoorMxAN
import Derived.Test.YtcodpnkfpmjleaaGreatDoorTo
import Derived.Deep.RegionWith
import Derived.Deep.QuietTactic
import Derived.BigQuiet
namespace Go.Proofs.YtcodpnkfpmjleaaGreatDoor
open Go.RowKit
set_option maxHeartbeats 1000000

theorem sizeOk_any (a a' : Option Addr) (n m cap cap' : Nat) (w : World) :
    Calls Tryz.prog 39 #[.agg #[.slice a n cap, .slice a' m cap']] w fun e w' =>
    e = .returned (.bool (inR n 1 100 && decide ((m : Int) ≤ 120))) ∧ Below w.heap.size w w' := by
  cases h : inR (n : Int) 1 100
  all_goals
    have H := hide h
    clear h
    go_enter Tryz.func39, Tryz.ntmps39
    go_wp2_with fail
    refine (inRange_any _ _ _ _).mono ?_
    rintro e w1 ⟨rfl, rfl⟩
    rw [H.out]
    go_wp2_with fail
    go_ret
    exact ⟨ret_b (by simp), (Below.refl _ _).alloc (Nat.le_refl _) _⟩

theorem pieceOk_any (p : Pc) (w : World) (hs : p.name.size ≤ 1048576) :
    Calls Tryz.prog 76 #[.agg #[.string p.name, .int .i64 p.len, .int .i64 p.speed, .int .i64 p.brake]] w fun e w' =>
    e = .returned (.bool p.ok) ∧ Below w.heap.size w w' := by
  cases h1 : nm p.name
  · have H1 := hide h1
    clear h1
    go_enter Tryz.func76, Tryz.ntmps76
    go_wp2_with fail
    refine (nameOk_any p.name _ hs).mono ?_
    rintro e w1 ⟨rfl, rfl⟩
    rw [H1.out]
    go_wp2_with fail
    go_ret
    exact ⟨ret_b (by simp [Pc.ok, H1.out]), (Below.refl _ _).alloc (Nat.le_refl _) _⟩
  have H1 := hide h1
  clear h1
  cases h2 : inR p.len 1 10000000
  · have H2 := hide h2
    clear h2
    go_enter Tryz.func76, Tryz.ntmps76
    go_wp2_with fail
    refine (nameOk_any p.name _ hs).mono ?_
    rintro e w1 ⟨rfl, rfl⟩
    rw [H1.out]
    go_wp2_with fail
    refine (inRange_any _ _ _ _).mono ?_
    rintro e w1 ⟨rfl, rfl⟩
    rw [H2.out]
    go_wp2_with fail
    go_ret
    exact ⟨ret_b (by simp [Pc.ok, H2.out]), (Below.refl _ _).alloc (Nat.le_refl _) _⟩
  have H2 := hide h2
  clear h2
  cases h3 : inR p.speed 1 10000
  · have H3 := hide h3
    clear h3
    go_enter Tryz.func76, Tryz.ntmps76
    go_wp2_with fail
    refine (nameOk_any p.name _ hs).mono ?_
    rintro e w1 ⟨rfl, rfl⟩
    rw [H1.out]
    go_wp2_with fail
    refine (inRange_any _ _ _ _).mono ?_
    rintro e w1 ⟨rfl, rfl⟩
    rw [H2.out]
    go_wp2_with fail
    refine (inRange_any _ _ _ _).mono ?_
    rintro e w1 ⟨rfl, rfl⟩
    rw [H3.out]
    go_wp2_with fail
    go_ret
    exact ⟨ret_b (by simp [Pc.ok, H3.out]), (Below.refl _ _).alloc (Nat.le_refl _) _⟩
  have H3 := hide h3
  clear h3
  go_enter Tryz.func76, Tryz.ntmps76
  go_wp2_with fail
  refine (nameOk_any p.name _ hs).mono ?_
  rintro e w1 ⟨rfl, rfl⟩
  rw [H1.out]
  go_wp2_with fail
  refine (inRange_any _ _ _ _).mono ?_
  rintro e w1 ⟨rfl, rfl⟩
  rw [H2.out]
  go_wp2_with fail
  refine (inRange_any _ _ _ _).mono ?_
  rintro e w1 ⟨rfl, rfl⟩
  rw [H3.out]
  go_wp2_with fail
  refine (inRange_any _ _ _ _).mono ?_
  rintro e w1 ⟨rfl, rfl⟩
  go_wp2_with fail
  go_ret
  exact ⟨ret_b (by simp [Pc.ok, H1.out, H2.out, H3.out]), (Below.refl _ _).alloc (Nat.le_refl _) _⟩

theorem seen_pcs (ps : List Pc) (k : Nat) (hk : k < ps.length) : seenI ((ps.take k).map (·.name.data.toList)) ps[k].name.data.toList = if (ps.take k).any (fun q => q.name.toList == ps[k].name.toList) then 1 else 0 := by
  unfold seenI
  congr 1
  rw [eq_iff_iff, List.contains_iff_exists_mem_beq, List.any_eq_true]
  simp only [List.mem_map, Lib.toList_data]
  constructor
  · rintro ⟨x, ⟨q, hq, rfl⟩, h⟩
    exact ⟨q, hq, by simpa using (beq_iff_eq.1 h).symm⟩
  · rintro ⟨q, hq, h⟩
    exact ⟨_, ⟨q, hq, rfl⟩, by simpa using (beq_iff_eq.1 h).symm⟩

theorem wrongPiece_any (a : Option Addr) (ps : List Pc) (cap : Nat) (w : World) (hn : ps.length ≤ 1048576) (hs : ∀ p ∈ ps, p.name.size ≤ 1048576) (hp : PcsAt w a ps) :
    Calls Tryz.prog 40 #[.slice a ps.length cap] w fun e w' =>
    e = .returned (.int .i64 (firstI (pcBad ps) ps.length)) ∧ Below w.heap.size w w' := by
  have HP := hide hp
  have HS := hide hs
  clear hp hs
  have hmm := @run_makeMap Tryz.prog
  go_enter Tryz.func40, Tryz.ntmps40
  go_wp2_with fail
  go_loopw [4, 5, 9] (fun _ _ i wr => ∃ (k : Nat), k ≤ ps.length ∧ i = .int .i64 k ∧ (∀ j, j < k → pcBad ps j = false) ∧ Hid (SI wr w.heap.size k ((ps.take k).map (·.name.data.toList))) ∧ Below w.heap.size w wr) (fun _ _ i _ => ps.length - (intOf i).toNat)
  case atStart => exact ⟨0, Nat.zero_le _, rfl, by intro j hj; omega, SI.made w, (Below.refl _ _).alloc (Nat.le_refl _) _⟩
  case round =>
    obtain ⟨k, hk, rfl, hall, hSI, hb⟩ := hrel
    have HA := hide hall
    clear hall hmm
    by_cases hlt : k < ps.length
    · obtain ⟨b, off, rfl, c0, c1, c2, c3⟩ := (PcsAt.later HP.out hb) k hlt
      have hblt := cell_lt c0
      have hsz := HS.out _ (List.getElem_mem hlt)
      go_wp2_with fail
      refine (pieceOk_any ps[k] _ hsz).mono ?_
      rintro e w1 ⟨rfl, hb1⟩
      have hbA : Below wr.heap.size wr w1 := ((Below.refl _ _).alloc (Nat.le_refl _) _).trans (hb1.mono (by simp))
      have hb2 := hb.trans (hbA.mono hb.size)
      have d0 := box_cell hb1 0 _ rfl
      have hSI1 := hSI.out.of_block (hbA.block _ hSI.out.lt)
      have hl := hSI1.look ps[k].name (by unfold maxLen; omega)
      rw [seen_pcs ps k hlt] at hl
      cases hok : ps[k].ok
      · have HOK := hide hok
        clear hok hl hSI1
        go_wp2_with fail
        go_ret
        exact ⟨ret_i (firstI_some hlt (by rw [pcBad_eq hlt, HOK.out]; rfl) HA.out).symm, hb2⟩
      · have HOK := hide hok
        clear hok
        cases hany : (ps.take k).any (fun q => q.name.toList == ps[k].name.toList)
        · rw [hany] at hl
          have HN := hide hany
          clear hany
          obtain ⟨w2, hput, hSI2, hg⟩ := hSI1.put (by unfold maxLen; omega) ps[k].name (by unfold maxLen; omega)
          have HSI2 := hide hSI2
          have HG := hide hg
          clear hSI2 hg hSI1
          go_wp2_with fail
          go_roundw
          case rel =>
            refine ⟨k + 1, by omega, by go_num, ?_, ?_, hb2.grown HG.out hb2.size (fun j hj => by cases hj; exact Nat.le_refl _)⟩
            · intro j hj
              by_cases e : j = k
              · subst e; rw [pcBad_eq hlt, HN.out, HOK.out]; rfl
              · exact HA.out j (by omega)
            · show SI _ _ _ _
              rw [List.take_succ_eq_append_getElem hlt, List.map_append]
              exact HSI2.out
          case measure => simp [intOf]; omega
        · rw [hany] at hl
          have HN := hide hany
          clear hany hSI1
          go_wp2_with fail
          go_ret
          exact ⟨ret_i (firstI_some hlt (by rw [pcBad_eq hlt, HN.out]; simp) HA.out).symm, hb2⟩
    · go_wp2_with fail
      go_ret
      exact ⟨ret_i (firstI_none (fun j hj => HA.out j (by omega))).symm, hb⟩
end Go.Proofs.YtcodpnkfpmjleaaGreatDoor

namespace Go.Proofs.YtcodpnkfpmjleaaGreatDoor
open Go.RowKit
set_option maxHeartbeats 1000000

theorem kindOf_none (k : Int) (h : k < 1 ∨ 4 < k) (w : World) : Calls Tryz.prog 61 #[.int .i64 k] w fun e w' => e = .returned .nilIface ∧ w = w' := by
  have h1 : (k == 1) = false := by rw [beq_eq_false_iff_ne]; omega
  have h2 : (k == 2) = false := by rw [beq_eq_false_iff_ne]; omega
  have h3 : (k == 3) = false := by rw [beq_eq_false_iff_ne]; omega
  have h4 : (k == 4) = false := by rw [beq_eq_false_iff_ne]; omega
  clear h
  go_enter Tryz.func61, Tryz.ntmps61
  go_wp2
  go_ret
  exact ⟨rfl, rfl⟩

theorem kindOf_1 (w : World) : Calls Tryz.prog 61 #[.int .i64 1] w fun e w' => e = .returned (.iface 186 (.agg #[])) ∧ w = w' := by
  go_enter Tryz.func61, Tryz.ntmps61
  go_wp2
  go_ret
  exact ⟨rfl, rfl⟩
theorem mn_1 (w : World) : (method 403 186 (.agg #[]) "loop.example/ballast/impl.named").run Tryz.prog w = .ok (200, .agg #[]) w := by kernel_rfl
theorem ms_1 (w : World) : (method 403 186 (.agg #[]) "loop.example/ballast/impl.size").run Tryz.prog w = .ok (201, .agg #[]) w := by kernel_rfl
theorem size_1 (w : World) : Calls Tryz.prog 201 #[.agg #[]] w fun e w' => e = .returned (.int .i64 1) ∧ Below w.heap.size w w' := by
  go_enter Tryz.func201, Tryz.ntmps201
  go_wp2
  go_ret
  exact ⟨rfl, (Below.refl _ _).alloc (Nat.le_refl _) _⟩
theorem named_1 (w : World) : Calls Tryz.prog 200 #[.agg #[]] w fun e w' => e = .returned (.bool false) ∧ Below w.heap.size w w' := by
  go_enter Tryz.func200, Tryz.ntmps200
  go_wp2
  go_ret
  exact ⟨rfl, (Below.refl _ _).alloc (Nat.le_refl _) _⟩

theorem kindOf_2 (w : World) : Calls Tryz.prog 61 #[.int .i64 2] w fun e w' => e = .returned (.iface 187 (.agg #[])) ∧ w = w' := by
  go_enter Tryz.func61, Tryz.ntmps61
  go_wp2
  go_ret
  exact ⟨rfl, rfl⟩
theorem mn_2 (w : World) : (method 403 187 (.agg #[]) "loop.example/ballast/impl.named").run Tryz.prog w = .ok (202, .agg #[]) w := by kernel_rfl
theorem ms_2 (w : World) : (method 403 187 (.agg #[]) "loop.example/ballast/impl.size").run Tryz.prog w = .ok (203, .agg #[]) w := by kernel_rfl
theorem size_2 (w : World) : Calls Tryz.prog 203 #[.agg #[]] w fun e w' => e = .returned (.int .i64 2) ∧ Below w.heap.size w w' := by
  go_enter Tryz.func203, Tryz.ntmps203
  go_wp2
  go_ret
  exact ⟨rfl, (Below.refl _ _).alloc (Nat.le_refl _) _⟩
theorem named_2 (w : World) : Calls Tryz.prog 202 #[.agg #[]] w fun e w' => e = .returned (.bool false) ∧ Below w.heap.size w w' := by
  go_enter Tryz.func202, Tryz.ntmps202
  go_wp2
  go_ret
  exact ⟨rfl, (Below.refl _ _).alloc (Nat.le_refl _) _⟩

theorem kindOf_3 (w : World) : Calls Tryz.prog 61 #[.int .i64 3] w fun e w' => e = .returned (.iface 188 (.agg #[])) ∧ w = w' := by
  go_enter Tryz.func61, Tryz.ntmps61
  go_wp2
  go_ret
  exact ⟨rfl, rfl⟩
theorem mn_3 (w : World) : (method 403 188 (.agg #[]) "loop.example/ballast/impl.named").run Tryz.prog w = .ok (204, .agg #[]) w := by kernel_rfl
theorem ms_3 (w : World) : (method 403 188 (.agg #[]) "loop.example/ballast/impl.size").run Tryz.prog w = .ok (205, .agg #[]) w := by kernel_rfl
theorem size_3 (w : World) : Calls Tryz.prog 205 #[.agg #[]] w fun e w' => e = .returned (.int .i64 3) ∧ Below w.heap.size w w' := by
  go_enter Tryz.func205, Tryz.ntmps205
  go_wp2
  go_ret
  exact ⟨rfl, (Below.refl _ _).alloc (Nat.le_refl _) _⟩
theorem named_3 (w : World) : Calls Tryz.prog 204 #[.agg #[]] w fun e w' => e = .returned (.bool true) ∧ Below w.heap.size w w' := by
  go_enter Tryz.func204, Tryz.ntmps204
  go_wp2
  go_ret
  exact ⟨rfl, (Below.refl _ _).alloc (Nat.le_refl _) _⟩

theorem kindOf_4 (w : World) : Calls Tryz.prog 61 #[.int .i64 4] w fun e w' => e = .returned (.iface 189 (.agg #[])) ∧ w = w' := by
  go_enter Tryz.func61, Tryz.ntmps61
  go_wp2
  go_ret
  exact ⟨rfl, rfl⟩
theorem mn_4 (w : World) : (method 403 189 (.agg #[]) "loop.example/ballast/impl.named").run Tryz.prog w = .ok (206, .agg #[]) w := by kernel_rfl
theorem ms_4 (w : World) : (method 403 189 (.agg #[]) "loop.example/ballast/impl.size").run Tryz.prog w = .ok (207, .agg #[]) w := by kernel_rfl
theorem size_4 (w : World) : Calls Tryz.prog 207 #[.agg #[]] w fun e w' => e = .returned (.int .i64 4) ∧ Below w.heap.size w w' := by
  go_enter Tryz.func207, Tryz.ntmps207
  go_wp2
  go_ret
  exact ⟨rfl, (Below.refl _ _).alloc (Nat.le_refl _) _⟩
theorem named_4 (w : World) : Calls Tryz.prog 206 #[.agg #[]] w fun e w' => e = .returned (.bool true) ∧ Below w.heap.size w w' := by
  go_enter Tryz.func206, Tryz.ntmps206
  go_wp2
  go_ret
  exact ⟨rfl, (Below.refl _ _).alloc (Nat.le_refl _) _⟩

theorem jointNameOk_1 (s : ByteArray) (a : Option Addr) (n cap : Nat) (w : World) :
    Calls Tryz.prog 78 #[.agg #[.int .i64 1, .string s, .slice a n cap]] w fun e w' =>
    e = .returned (.bool s.toList.isEmpty) ∧ Below w.heap.size w w' := by
  have hm := mn_1
  go_enter Tryz.func78, Tryz.ntmps78
  go_wp2_with fail
  refine (kindOf_1 _).mono ?_
  rintro e w1 ⟨rfl, rfl⟩
  go_wp2_with fail
  refine (named_1 _).mono ?_
  rintro e w1 ⟨rfl, hb1⟩
  have d1 := box_cell hb1 1 _ rfl
  have hb2 := ((Below.refl w.heap.size w).alloc (Nat.le_refl _) _).trans (hb1.mono (by simp))
  go_wp2_with fail
  go_ret
  exact ⟨rfl, hb2⟩

theorem jointNameOk_2 (s : ByteArray) (a : Option Addr) (n cap : Nat) (w : World) :
    Calls Tryz.prog 78 #[.agg #[.int .i64 2, .string s, .slice a n cap]] w fun e w' =>
    e = .returned (.bool s.toList.isEmpty) ∧ Below w.heap.size w w' := by
  have hm := mn_2
  go_enter Tryz.func78, Tryz.ntmps78
  go_wp2_with fail
  refine (kindOf_2 _).mono ?_
  rintro e w1 ⟨rfl, rfl⟩
  go_wp2_with fail
  refine (named_2 _).mono ?_
  rintro e w1 ⟨rfl, hb1⟩
  have d1 := box_cell hb1 1 _ rfl
  have hb2 := ((Below.refl w.heap.size w).alloc (Nat.le_refl _) _).trans (hb1.mono (by simp))
  go_wp2_with fail
  go_ret
  exact ⟨rfl, hb2⟩

theorem jointNameOk_3 (s : ByteArray) (a : Option Addr) (n cap : Nat) (w : World) (hs : s.size ≤ 1048576) :
    Calls Tryz.prog 78 #[.agg #[.int .i64 3, .string s, .slice a n cap]] w fun e w' =>
    e = .returned (.bool (nm s)) ∧ Below w.heap.size w w' := by
  have hm := mn_3
  go_enter Tryz.func78, Tryz.ntmps78
  go_wp2_with fail
  refine (kindOf_3 _).mono ?_
  rintro e w1 ⟨rfl, rfl⟩
  go_wp2_with fail
  refine (named_3 _).mono ?_
  rintro e w1 ⟨rfl, hb1⟩
  have d1 := box_cell hb1 1 _ rfl
  have hb2 := ((Below.refl w.heap.size w).alloc (Nat.le_refl _) _).trans (hb1.mono (by simp))
  go_wp2_with fail
  refine (nameOk_any s _ hs).mono ?_
  rintro e w2 ⟨rfl, rfl⟩
  go_wp2_with fail
  go_ret
  exact ⟨rfl, hb2⟩

theorem jointNameOk_4 (s : ByteArray) (a : Option Addr) (n cap : Nat) (w : World) (hs : s.size ≤ 1048576) :
    Calls Tryz.prog 78 #[.agg #[.int .i64 4, .string s, .slice a n cap]] w fun e w' =>
    e = .returned (.bool (nm s)) ∧ Below w.heap.size w w' := by
  have hm := mn_4
  go_enter Tryz.func78, Tryz.ntmps78
  go_wp2_with fail
  refine (kindOf_4 _).mono ?_
  rintro e w1 ⟨rfl, rfl⟩
  go_wp2_with fail
  refine (named_4 _).mono ?_
  rintro e w1 ⟨rfl, hb1⟩
  have d1 := box_cell hb1 1 _ rfl
  have hb2 := ((Below.refl w.heap.size w).alloc (Nat.le_refl _) _).trans (hb1.mono (by simp))
  go_wp2_with fail
  refine (nameOk_any s _ hs).mono ?_
  rintro e w2 ⟨rfl, rfl⟩
  go_wp2_with fail
  go_ret
  exact ⟨rfl, hb2⟩

theorem jointOk_none (k : Int) (h : k < 1 ∨ 4 < k) (s : ByteArray) (a : Option Addr) (es : List (Int × Int)) (cap n : Nat) (w : World) :
    Calls Tryz.prog 77 #[.agg #[.int .i64 k, .string s, .slice a es.length cap], .int .i64 n] w fun e w' =>
    e = .returned (.bool false) ∧ Below w.heap.size w w' := by
  go_enter Tryz.func77, Tryz.ntmps77
  go_wp2_with fail
  refine (kindOf_none k h _).mono ?_
  rintro e w1 ⟨rfl, rfl⟩
  go_wp2_with fail
  go_quiet (fail)
  go_wp2_with fail
  go_ret
  exact ⟨rfl, below_drewN ((Below.refl _ _).alloc (Nat.le_refl _) _) _⟩
end Go.Proofs.YtcodpnkfpmjleaaGreatDoor

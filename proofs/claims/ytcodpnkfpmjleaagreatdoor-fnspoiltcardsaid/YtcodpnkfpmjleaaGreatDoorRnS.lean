/- spec: lines, words, numbers of a text. Own work. -/
import Derived.Test.YtcodpnkfpmjleaaGreatDoorMxAA
import Derived.Test.YtcodpnkfpmjleaaGreatDoorMxAB
import Derived.Deep.AppendLies
import Derived.Lib.Strings
namespace Go.Proofs.YtcodpnkfpmjleaaGreatDoor
open Go.RowKit
set_option maxHeartbeats 2000000
set_option maxRecDepth 100000

theorem infoStrR : (Tryz.prog.info? 9).map (fun i => (i.zero, i.size, i.bytes)) = some (some (.string ⟨#[]⟩), 1, 16) := by kernel_rfl
def strCells (ws : List Bl) : List Value := ws.map fun l => .string (sb l)
theorem strCells_add (ws : List Bl) (x : Bl) : strCells (ws ++ [x]) = strCells ws ++ [.string (sb x)] := by simp [strCells]
theorem bs_at (s : ByteArray) (k : Nat) (hk : k < s.size) : (bs s).drop k = s[k] :: (bs s).drop (k + 1) := by
  have hk' : k < (bs s).length := by rw [bs_len]; exact hk
  rw [List.drop_eq_getElem_cons hk']
  congr 1
theorem newsAt {W : World} {n : Nat} {cs : Array Value} {T : TypeId} (h : W.heap.size = n) : ∀ j u, cs.toList[j]? = some u → (W.alloc (.cells cs T)).cell? ((⟨n, 0, none⟩ : Addr).add j) = some u := by
  subst h
  exact World.news_of_block (heap_alloc_new W _)
theorem sb_toList (l : Bl) : (sb l).toList = l := by rw [Lib.toList_data]; simp [sb]
theorem sb_empty {l : Bl} (h : l = []) : (sb l).toList.isEmpty = true := by rw [sb_toList, h]; rfl
theorem sb_some {l : Bl} (h : l ≠ []) : (sb l).toList.isEmpty = false := by rw [sb_toList]; cases l with | nil => exact absurd rfl h | cons a l => rfl
theorem u8_eq {c m : UInt8} : c = m ↔ c.toNat = m.toNat := UInt8.toNat_inj.symm
theorem sb_push (l : Bl) (c : UInt8) : sb l ++ ByteArray.empty.push c = sb (l ++ [c]) := by
  apply ByteArray.ext
  simp [sb, ByteArray.data_append]
theorem l2words_any (s : ByteArray) (w : World) (hs : s.size ≤ 1048576) :
    Calls Tryz.prog 35 #[.string s] w fun e w' => ∃ v, e = .returned v ∧ w'.ownsRow w.heap.size 9 1 v (wordsL (bs s)).length (strCells (wordsL (bs s))) ∧ Below w.heap.size w w' := by
  obtain ⟨iS, hiS, hz0, hz1, hz2⟩ := info_parts infoStrR
  have HI := hide hiS
  have H0 := hide hz0
  have H1 := hide hz1
  have H2 := hide hz2
  generalize hR : wordsL (bs s) = R
  have HR := hide hR
  clear hiS hz0 hz1 hz2 hR
  go_enter Tryz.func35, Tryz.ntmps35
  go_wp2_with fail
  go_loopw [3, 4, 5] (fun q3 q4 q5 wr => ∃ (k : Nat) (out : List Bl) (word : Bl), k ≤ s.size + 1 ∧ q5 = .int .i64 k ∧ q4 = .string (sb word) ∧ out.length ≤ k ∧ word.length ≤ k ∧ Hid (wr.ownsRow w.heap.size 9 1 q3 out.length (strCells out)) ∧ Hid (if k = s.size + 1 then out = R else out ++ wordsG word ((bs s).drop k) = R) ∧ Hid (Below w.heap.size w wr)) (fun _ _ q5 _ => s.size + 1 - (intOf q5).toNat)
  case atStart => exact ⟨0, [], [], Nat.zero_le _, rfl, rfl, Nat.zero_le _, Nat.zero_le _, World.ownsRow_nil _ _ _ _, by show (if _ then _ else _); rw [if_neg (by omega)]; exact HR.out, Below.refl _ _⟩
  case round =>
    obtain ⟨k, out, word, hk, rfl, rfl, hol, hwl, HO, HG, HB⟩ := hrel
    have hml : out.length + 1 ≤ maxLen := by unfold maxLen; omega
    have hwi : IntKind.i64.wrap ((k : Int) + 1) = ((k + 1 : Nat) : Int) := by rw [IntKind.wrap_i64]; omega
    obtain ⟨zo, co, rfl⟩ : ∃ z c, u3 = .slice z out.length c := by
      rcases HO.out.2 with ⟨h, h0⟩ | ⟨g, cap, cur, h, _⟩
      · exact ⟨none, 0, by rw [h, h0]⟩
      · exact ⟨_, cap, h⟩
    by_cases hlt : k < s.size
    · have hki : (k : Int) < (s.size : Int) := by omega
      have hkl : (k : Int) ≤ (s.size : Int) := by omega
      have hke : ((k : Int) == (s.size : Int)) = false := by rw [beq_eq_false_iff_ne]; omega
      have hG := HG.out
      rw [if_neg (by omega), bs_at s k hlt, wordsG] at hG
      have HG2 := hide hG
      have hc256 : s[k].toNat < 256 := UInt8.toNat_lt _
      have HCN := hide (show (s[k] = 35 ↔ s[k].toNat = 35) ∧ (s[k] = 32 ↔ s[k].toNat = 32) ∧ (s[k] = 9 ↔ s[k].toNat = 9) from ⟨u8_eq, u8_eq, u8_eq⟩)
      clear hG HG
      by_cases c35 : s[k].toNat = 35
      · have g35 : ((s[k].toNat : Int) == 35) = true := by rw [beq_iff_eq]; omega
        have g32 : ((s[k].toNat : Int) == 32) = false := by rw [beq_eq_false_iff_ne]; omega
        have g9 : ((s[k].toNat : Int) == 9) = false := by rw [beq_eq_false_iff_ne]; omega
        have HG3 := hide (show out ++ putW word = R by have h := HG2.out; rw [if_pos (HCN.out.1.2 c35)] at h; exact h)
        clear c35 HG2
        by_cases hw : word = []
        · have gw := sb_empty hw
          have HG4 := hide (show out = R by have h := HG3.out; rw [putW, if_pos hw, List.append_nil] at h; exact h)
          clear hw
          go_wp2_with fail
          go_ret
          refine ⟨_, rfl, ?_, HB.out⟩
          rw [← HG4.out]
          exact HO.out
        · have gw := sb_some hw
          have HG4 := hide (show out ++ [word] = R by have h := HG3.out; rw [putW, if_neg hw] at h; exact h)
          clear hw
          go_wp2_with (first
            | (at_builtin; (refine wpList_append_lies _ rfl _ _ _ rfl w.heap.size 9 iS _ 1 16 Tryz.underlying65 HI.out H0.out H1.out H2.out rfl (by omega) _ out.length (strCells out) rfl (HO.out.alloc _) ⟨_, 0, none⟩ 1 1 [.string (sb word)] rfl rfl (newsAt rfl) (by simp [Value.oneCell']) (by omega) hml (by omega) (by have := HB.out.size; simp; omega) _ rfl ?_); intro g2 cp2 w7 hown2 hgrow2 hgg _; have HO7 := hide hown2; have HG7 := hide hgrow2))
          all_goals
            have HBN := hide ((HB.out.alloc HB.out.size (.cells #[.string (sb word)] 9)).grown HG7.out (by have := HB.out.size; simp; omega) (fun k e => (HO.out.lt k e).1))
            have HON : Hid (w7.ownsRow w.heap.size 9 1 (.slice (some ⟨g2, 0, none⟩) (out.length + 1) cp2) (out ++ [word]).length (strCells (out ++ [word]))) := by
              show World.ownsRow _ _ _ _ _ _ _
              rw [strCells_add, List.length_append]
              exact HO7.out
            go_wp2_with fail
            go_ret
            refine ⟨_, rfl, ?_, HBN.out⟩
            rw [← HG4.out, List.length_append]
            have h := HON.out
            rw [List.length_append] at h
            exact h
      · have g35 : ((s[k].toNat : Int) == 35) = false := by rw [beq_eq_false_iff_ne]; omega
        have n35 : ¬ s[k] = 35 := fun h => c35 (HCN.out.1.1 h)
        by_cases c32 : s[k].toNat = 32 ∨ s[k].toNat = 9
        · have HG3 := hide (show out ++ (putW word ++ wordsG [] ((bs s).drop (k + 1))) = R by
            have h := HG2.out
            rw [if_neg n35, if_pos (c32.imp HCN.out.2.1.2 HCN.out.2.2.2)] at h
            exact h)
          have hcc : ((s[k].toNat : Int) == 32) = true ∨ (((s[k].toNat : Int) == 32) = false ∧ ((s[k].toNat : Int) == 9) = true) := by
            rw [beq_iff_eq, beq_iff_eq, beq_eq_false_iff_ne]
            omega
          clear c32 c35 n35 HG2
          by_cases hw : word = []
          · have gw := sb_empty hw
            have HG4 : Hid (if k + 1 = s.size + 1 then out = R else out ++ wordsG [] ((bs s).drop (k + 1)) = R) := by
              show (if _ then _ else _)
              rw [if_neg (by omega)]
              have h := HG3.out
              rw [putW, if_pos hw, List.nil_append] at h
              exact h
            clear hw
            rcases hcc with g32 | ⟨g32, g9⟩
            all_goals
              go_wp2_with fail
              go_roundw
              case rel => exact ⟨k + 1, out, [], by omega, by go_num, rfl, by omega, by simp, HO, HG4, HB⟩
              case measure => simp [intOf]; omega
          · have gw := sb_some hw
            have HG4 : Hid (if k + 1 = s.size + 1 then out ++ [word] = R else (out ++ [word]) ++ wordsG [] ((bs s).drop (k + 1)) = R) := by
              show (if _ then _ else _)
              rw [if_neg (by omega)]
              have h := HG3.out
              rw [putW, if_neg hw, ← List.append_assoc] at h
              exact h
            clear hw
            rcases hcc with g32 | ⟨g32, g9⟩
            all_goals
              go_wp2_with (first
                | (at_builtin; (refine wpList_append_lies _ rfl _ _ _ rfl w.heap.size 9 iS _ 1 16 Tryz.underlying65 HI.out H0.out H1.out H2.out rfl (by omega) _ out.length (strCells out) rfl (HO.out.alloc _) ⟨_, 0, none⟩ 1 1 [.string (sb word)] rfl rfl (newsAt rfl) (by simp [Value.oneCell']) (by omega) hml (by omega) (by have := HB.out.size; simp; omega) _ rfl ?_); intro g2 cp2 w7 hown2 hgrow2 hgg _; have HO7 := hide hown2; have HG7 := hide hgrow2))
              all_goals
                have HBN := hide ((HB.out.alloc HB.out.size (.cells #[.string (sb word)] 9)).grown HG7.out (by have := HB.out.size; simp; omega) (fun k e => (HO.out.lt k e).1))
                have HON : Hid (w7.ownsRow w.heap.size 9 1 (.slice (some ⟨g2, 0, none⟩) (out.length + 1) cp2) (out ++ [word]).length (strCells (out ++ [word]))) := by
                  show World.ownsRow _ _ _ _ _ _ _
                  rw [strCells_add, List.length_append]
                  exact HO7.out
                go_wp2_with fail
                go_roundw
                case rel => exact ⟨k + 1, out ++ [word], [], by omega, by go_num, rfl, by simp; omega, by simp, HON, HG4, HBN⟩
                case measure => simp [intOf]; omega
        · have g32 : ((s[k].toNat : Int) == 32) = false := by rw [beq_eq_false_iff_ne]; omega
          have g9 : ((s[k].toNat : Int) == 9) = false := by rw [beq_eq_false_iff_ne]; omega
          have HG4 : Hid (if k + 1 = s.size + 1 then out = R else out ++ wordsG (word ++ [s[k]]) ((bs s).drop (k + 1)) = R) := by
            show (if _ then _ else _)
            rw [if_neg (by omega)]
            have h := HG2.out
            rw [if_neg n35, if_neg (fun h' => c32 (h'.imp HCN.out.2.1.1 HCN.out.2.2.1))] at h
            exact h
          have hcv := conv1 wr (s[k].toNat : Int)
          have hsz : (sb word).size ≤ 1048577 := by rw [sb_size]; omega
          have hpz : (ByteArray.empty.push (UInt8.ofNat (s[k].toNat : Int).toNat)).size = 1 := rfl
          have HA := hide (HB.out.alloc HB.out.size (.cells #[.int .u8 (s[k].toNat : Int)] 5))
          have HOA := hide (HO.out.alloc (.cells #[.int .u8 (s[k].toNat : Int)] 5))
          have HS := hide (sb_push word s[k])
          clear c35 c32 n35 HG2
          go_wp2_with fail
          refine ⟨⟨k + 1, out, word ++ [s[k]], by omega, by go_num, by rw [HS.out], by omega, by simp; omega, HOA, HG4, HA⟩, by simp [intOf]; omega⟩
    · by_cases hek : k = s.size
      · subst hek
        have hkl : ((s.size : Nat) : Int) ≤ (s.size : Int) := by omega
        have hke : ((s.size : Int) == (s.size : Int)) = true := by simp
        have hG := HG.out
        rw [if_neg (by omega), show (bs s).drop s.size = [] by rw [← bs_len]; simp, wordsG] at hG
        have HG2 := hide hG
        clear hG HG
        by_cases hw : word = []
        · have gw := sb_empty hw
          have HG4 : Hid (if s.size + 1 = s.size + 1 then out = R else out ++ wordsG [] ((bs s).drop (s.size + 1)) = R) := by
            show (if _ then _ else _)
            rw [if_pos rfl]
            have h := HG2.out
            rw [putW, if_pos hw, List.append_nil] at h
            exact h
          clear hw
          go_wp2_with fail
          go_roundw
          case rel => exact ⟨s.size + 1, out, [], by omega, by go_num, rfl, by omega, by simp, HO, HG4, HB⟩
          case measure => simp [intOf]
        · have gw := sb_some hw
          have HG4 : Hid (if s.size + 1 = s.size + 1 then out ++ [word] = R else (out ++ [word]) ++ wordsG [] ((bs s).drop (s.size + 1)) = R) := by
            show (if _ then _ else _)
            rw [if_pos rfl]
            have h := HG2.out
            rw [putW, if_neg hw] at h
            exact h
          clear hw
          go_wp2_with (first
            | (at_builtin; (refine wpList_append_lies _ rfl _ _ _ rfl w.heap.size 9 iS _ 1 16 Tryz.underlying65 HI.out H0.out H1.out H2.out rfl (by omega) _ out.length (strCells out) rfl (HO.out.alloc _) ⟨_, 0, none⟩ 1 1 [.string (sb word)] rfl rfl (newsAt rfl) (by simp [Value.oneCell']) (by omega) hml (by omega) (by have := HB.out.size; simp; omega) _ rfl ?_); intro g2 cp2 w7 hown2 hgrow2 hgg _; have HO7 := hide hown2; have HG7 := hide hgrow2))
          all_goals
            have HBN := hide ((HB.out.alloc HB.out.size (.cells #[.string (sb word)] 9)).grown HG7.out (by have := HB.out.size; simp; omega) (fun k e => (HO.out.lt k e).1))
            have HON : Hid (w7.ownsRow w.heap.size 9 1 (.slice (some ⟨g2, 0, none⟩) (out.length + 1) cp2) (out ++ [word]).length (strCells (out ++ [word]))) := by
              show World.ownsRow _ _ _ _ _ _ _
              rw [strCells_add, List.length_append]
              exact HO7.out
            go_wp2_with fail
            go_roundw
            case rel => exact ⟨s.size + 1, out ++ [word], [], by omega, by go_num, rfl, by simp; omega, by simp, HON, HG4, HBN⟩
            case measure => simp [intOf]
      · obtain rfl : k = s.size + 1 := by omega
        have hkl : ¬ ((s.size + 1 : Nat) : Int) ≤ (s.size : Int) := by omega
        have hG := HG.out
        rw [if_pos rfl] at hG
        have HG2 := hide hG
        clear hG HG
        go_wp2_with fail
        go_ret
        refine ⟨_, rfl, ?_, HB.out⟩
        rw [← HG2.out]
        exact HO.out
theorem sb_slice (s : ByteArray) (i j : Nat) : s.extract i j = sb (((bs s).drop i).take (j - i)) := by
  refine ByteArray.ext (Array.ext' ?_)
  simp [sb, bs, List.extract]
theorem l2lines_any (s : ByteArray) (w : World) (hs : s.size ≤ 1048576) :
    Calls Tryz.prog 34 #[.string s] w fun e w' => ∃ v, e = .returned v ∧ w'.ownsRow w.heap.size 9 1 v (linesL (bs s)).length (strCells (linesL (bs s))) ∧ Below w.heap.size w w' := by
  obtain ⟨iS, hiS, hz0, hz1, hz2⟩ := info_parts infoStrR
  have HI := hide hiS
  have H0 := hide hz0
  have H1 := hide hz1
  have H2 := hide hz2
  generalize hR : linesL (bs s) = R
  have HR := hide hR
  clear hiS hz0 hz1 hz2 hR
  go_enter Tryz.func34, Tryz.ntmps34
  go_wp2_with fail
  go_loopw [3, 4, 5] (fun q3 q4 q5 wr => ∃ (k a : Nat) (out : List Bl), k ≤ s.size + 1 ∧ a ≤ k ∧ q5 = .int .i64 k ∧ q4 = .int .i64 (if k = s.size + 1 then (s.size : Int) + 1 else a) ∧ out.length ≤ k ∧ Hid (wr.ownsRow w.heap.size 9 1 q3 out.length (strCells out)) ∧ Hid (if k = s.size + 1 then out = R else out ++ linesG (((bs s).drop a).take (k - a)) ((bs s).drop k) = R) ∧ Hid (Below w.heap.size w wr)) (fun _ _ q5 _ => s.size + 1 - (intOf q5).toNat)
  case atStart => exact ⟨0, 0, [], Nat.zero_le _, Nat.le_refl _, rfl, by rw [if_neg (by omega)]; rfl, Nat.zero_le _, World.ownsRow_nil _ _ _ _, by show (if _ then _ else _); rw [if_neg (by omega)]; simp only [List.drop_zero, List.take_zero, Nat.sub_self, List.nil_append]; exact HR.out, Below.refl _ _⟩
  case round =>
    obtain ⟨k, a, out, hk, hak, rfl, rfl, hol, HO, HG, HB⟩ := hrel
    have hml : out.length + 1 ≤ maxLen := by unfold maxLen; omega
    have hwi : IntKind.i64.wrap ((k : Int) + 1) = ((k + 1 : Nat) : Int) := by rw [IntKind.wrap_i64]; omega
    obtain ⟨zo, co, rfl⟩ : ∃ z c, u3 = .slice z out.length c := by
      rcases HO.out.2 with ⟨h, h0⟩ | ⟨g, cap, cur, h, _⟩
      · exact ⟨none, 0, by rw [h, h0]⟩
      · exact ⟨_, cap, h⟩
    by_cases hlt : k < s.size
    · rw [if_neg (show ¬ k = s.size + 1 by omega)]
      have hki : (k : Int) < (s.size : Int) := by omega
      have hkl : (k : Int) ≤ (s.size : Int) := by omega
      have hke : ((k : Int) == (s.size : Int)) = false := by rw [beq_eq_false_iff_ne]; omega
      have hG := HG.out
      rw [if_neg (by omega), bs_at s k hlt, linesG] at hG
      have HG2 := hide hG
      have HCN := hide (show s[k] = 10 ↔ s[k].toNat = 10 from u8_eq)
      clear hG HG
      by_cases c10 : s[k].toNat = 10
      · have g10 : ((s[k].toNat : Int) == 10) = true := by rw [beq_iff_eq]; omega
        have HX := hide (sb_slice s a k)
        have HG4 : Hid (if k + 1 = s.size + 1 then out ++ [((bs s).drop a).take (k - a)] = R else (out ++ [((bs s).drop a).take (k - a)]) ++ linesG (((bs s).drop (k + 1)).take (k + 1 - (k + 1))) ((bs s).drop (k + 1)) = R) := by
          show (if _ then _ else _)
          rw [if_neg (by omega)]
          have h := HG2.out
          rw [if_pos (HCN.out.2 c10)] at h
          simpa using h
        clear c10 HG2
        generalize ((bs s).drop a).take (k - a) = cur at *
        have hai : (a : Int) ≤ (k : Int) := by omega
        go_wp2_with (first
          | (at_builtin; (refine wpList_append_lies _ rfl _ _ _ rfl w.heap.size 9 iS _ 1 16 Tryz.underlying65 HI.out H0.out H1.out H2.out rfl (by omega) _ out.length (strCells out) rfl (HO.out.alloc _) ⟨_, 0, none⟩ 1 1 [.string (s.extract a k)] rfl rfl (newsAt rfl) (by simp [Value.oneCell']) (by omega) hml (by omega) (by have := HB.out.size; simp; omega) _ rfl ?_); intro g2 cp2 w7 hown2 hgrow2 hgg _; have HO7 := hide hown2; have HG7 := hide hgrow2))
        all_goals
          have HBN := hide ((HB.out.alloc HB.out.size (.cells #[.string (s.extract a k)] 9)).grown HG7.out (by have := HB.out.size; simp; omega) (fun k e => (HO.out.lt k e).1))
          have HON : Hid (w7.ownsRow w.heap.size 9 1 (.slice (some ⟨g2, 0, none⟩) (out.length + 1) cp2) (out ++ [cur]).length (strCells (out ++ [cur]))) := by
            show World.ownsRow _ _ _ _ _ _ _
            rw [strCells_add, List.length_append, ← HX.out]
            exact HO7.out
          go_wp2_with fail
          go_roundw
          case rel => exact ⟨k + 1, k + 1, out ++ [cur], by omega, by omega, by go_num, by rw [if_neg (by omega)]; go_num, by simp; omega, HON, HG4, HBN⟩
          case measure => simp [intOf]; omega
      · have g10 : ((s[k].toNat : Int) == 10) = false := by rw [beq_eq_false_iff_ne]; omega
        have HG4 : Hid (if k + 1 = s.size + 1 then out = R else out ++ linesG (((bs s).drop a).take (k + 1 - a)) ((bs s).drop (k + 1)) = R) := by
          show (if _ then _ else _)
          rw [if_neg (by omega)]
          have h := HG2.out
          rw [if_neg (fun h' => c10 (HCN.out.1 h'))] at h
          have e : ((bs s).drop a).take (k + 1 - a) = ((bs s).drop a).take (k - a) ++ [s[k]] := by
            rw [show k + 1 - a = (k - a) + 1 by omega, List.take_succ_eq_append_getElem (by rw [List.length_drop, bs_len]; omega)]
            congr 2
            rw [List.getElem_drop]
            simp [bs, show a + (k - a) = k by omega]
            rfl
          rw [e]
          exact h
        clear c10 HG2
        go_wp2_with fail
        go_roundw
        case rel => exact ⟨k + 1, a, out, by omega, by omega, by go_num, by rw [if_neg (by omega)], by omega, HO, HG4, HB⟩
        case measure => simp [intOf]; omega
    · by_cases hek : k = s.size
      · subst hek
        rw [if_neg (show ¬ s.size = s.size + 1 by omega)]
        have hkl : ((s.size : Nat) : Int) ≤ (s.size : Int) := by omega
        have hke : ((s.size : Int) == (s.size : Int)) = true := by simp
        have hG := HG.out
        rw [if_neg (by omega), show (bs s).drop s.size = [] by rw [← bs_len]; simp, linesG] at hG
        have HX := hide (sb_slice s a s.size)
        have HG4 : Hid (if s.size + 1 = s.size + 1 then out ++ [((bs s).drop a).take (s.size - a)] = R else (out ++ [((bs s).drop a).take (s.size - a)]) ++ linesG (((bs s).drop 0).take (s.size + 1 - 0)) ((bs s).drop (s.size + 1)) = R) := by
          show (if _ then _ else _)
          rw [if_pos rfl]
          exact hG
        clear hG HG
        generalize ((bs s).drop a).take (s.size - a) = cur at *
        have hai : (a : Int) ≤ (s.size : Int) := by omega
        go_wp2_with (first
          | (at_builtin; (refine wpList_append_lies _ rfl _ _ _ rfl w.heap.size 9 iS _ 1 16 Tryz.underlying65 HI.out H0.out H1.out H2.out rfl (by omega) _ out.length (strCells out) rfl (HO.out.alloc _) ⟨_, 0, none⟩ 1 1 [.string (s.extract a s.size)] rfl rfl (newsAt rfl) (by simp [Value.oneCell']) (by omega) hml (by omega) (by have := HB.out.size; simp; omega) _ rfl ?_); intro g2 cp2 w7 hown2 hgrow2 hgg _; have HO7 := hide hown2; have HG7 := hide hgrow2))
        all_goals
          have HBN := hide ((HB.out.alloc HB.out.size (.cells #[.string (s.extract a s.size)] 9)).grown HG7.out (by have := HB.out.size; simp; omega) (fun k e => (HO.out.lt k e).1))
          have HON : Hid (w7.ownsRow w.heap.size 9 1 (.slice (some ⟨g2, 0, none⟩) (out.length + 1) cp2) (out ++ [cur]).length (strCells (out ++ [cur]))) := by
            show World.ownsRow _ _ _ _ _ _ _
            rw [strCells_add, List.length_append, ← HX.out]
            exact HO7.out
          go_wp2_with fail
          go_roundw
          case rel => exact ⟨s.size + 1, 0, out ++ [cur], by omega, by omega, by go_num, by rw [if_pos rfl], by simp; omega, HON, HG4, HBN⟩
          case measure => simp [intOf]
      · obtain rfl : k = s.size + 1 := by omega
        have hkl : ¬ ((s.size + 1 : Nat) : Int) ≤ (s.size : Int) := by omega
        have hG := HG.out
        rw [if_pos rfl] at hG
        have HG2 := hide hG
        clear hG HG
        go_wp2_with fail
        go_ret
        refine ⟨_, rfl, ?_, HB.out⟩
        rw [← HG2.out]
        exact HO.out
end Go.Proofs.YtcodpnkfpmjleaaGreatDoor

/- impl.writeLine, and lines as joined words. Own work. -/
import Derived.Test.YtcodpnkfpmjleaaGreatDoorWnJ
import Derived.Test.YtcodpnkfpmjleaaGreatDoorMxAO
namespace Go.Proofs.YtcodpnkfpmjleaaGreatDoor
open Go.RowKit
set_option maxHeartbeats 2000000

def joinL (xs : List ByteArray) : List UInt8 := Lib.join (xs.map (·.data.toList)) [32]

/-- A builder of the call's own in block B that holds these bytes. -/
abbrev Bld (B : Nat) (l : List UInt8) (w : World) : Prop := Lib.IsBuilderF 61 5 B B (Lib.byteCells l) w

theorem bld_new (w : World) : Bld w.heap.size [] (w.alloc (.cells #[.pointer none, .slice none 0 0] 61)) :=
  .inl ⟨Nat.le_refl _, .slice none 0 0, heap_alloc_new w _, ⟨by simp [Lib.byteCells], .inl ⟨rfl, rfl⟩⟩, by simp [Value.ownBlock]⟩

theorem Bld.later {B : Nat} {l : List UInt8} {w w' : World} (h : Bld B l w) (hb : Below w.heap.size w w') : Bld B l w' := Lib.IsBuilderF.below h hb

theorem Bld.lt {B : Nat} {l : List UInt8} {w : World} (h : Bld B l w) : B < w.heap.size := by
  rcases h with h | h
  · exact h.lt
  · exact h.lt

set_option maxRecDepth 20000 in
theorem writeLine_any (B g c : Nat) (xs : List ByteArray) (l : List UInt8) (w : World) (hbl : Bld B l w) (hxs : StrsAt w g xs) (hg : g < w.heap.size) (hc : xs.length ≤ c) (hn : xs.length ≤ 100) (hj : (joinL xs).length ≤ 1000) (hl : l.length ≤ 1000000) :
    Calls Tryz.prog 21 #[.pointer (some ⟨B, 0, none⟩), .slice (some ⟨g, 0, none⟩) xs.length c] w fun e w' =>
    (∃ v, e = .returned v) ∧ Bld B (l ++ joinL xs ++ [10]) w' ∧ Below B w w' := by
  have HBL := hide hbl
  have HXS := hide hxs
  generalize hJ : joinL xs = J at hj ⊢
  have HJ := hide hJ
  clear hbl hxs hJ
  go_enter Tryz.func21, Tryz.ntmps21
  go_wp2_with fail
  refine (Tryz.strings_Join g 0 c xs ⟨#[32]⟩ w HXS.out hg (by omega) hc (by show (joinL xs).length ≤ _; rw [HJ.out]; omega)).mono ?_
  rintro e w1 ⟨rfl, hb1⟩
  have HBL1 := hide (HBL.out.later hb1)
  have hB1 := HBL1.out.lt
  have HS := hide (show (⟨(Lib.join (xs.map (·.data.toList)) (ByteArray.mk #[32]).data.toList).toArray⟩ : ByteArray) = ⟨J.toArray⟩ by rw [← HJ.out]; rfl)
  rw [HS.out]
  clear HS HJ
  go_wp2_with fail
  refine (Tryz.Builder_WriteString_k B B _ _ w1 HBL1.out (by rw [Lib.byteCells_length]; show l.length + J.toArray.size ≤ _; rw [List.size_toArray]; omega) (by omega)).mono ?_
  rintro e w2 ⟨rfl, h2, hb2, _⟩
  have HB2 := hide (show Bld B (l ++ J) w2 by
    have e : Lib.byteCells (l ++ J) = Lib.byteCells l ++ Lib.strCells ⟨J.toArray⟩ := by rw [Lib.byteCells_append, Lib.strCells_toArray]
    show Lib.IsBuilderF _ _ _ _ (Lib.byteCells (l ++ J)) _
    rw [e]
    exact .inr h2)
  have hB2 := HB2.out.lt
  clear h2
  go_wp2_with fail
  refine (Tryz.Builder_WriteByte_k B B _ 10 w2 HB2.out (by rw [Lib.byteCells_length, List.length_append]; omega) (by omega)).mono ?_
  rintro e w3 ⟨rfl, h3, hb3, _⟩
  have HB3 := hide (show Bld B (l ++ J ++ [10]) w3 by
    have e : Lib.byteCells (l ++ J ++ [10]) = Lib.byteCells (l ++ J) ++ [.int .u8 10] := by rw [Lib.byteCells_append]; rfl
    show Lib.IsBuilderF _ _ _ _ (Lib.byteCells (l ++ J ++ [10])) _
    rw [e]
    exact .inr h3)
  have hBw := HBL.out.lt
  have hbt := ((hb1.mono (Nat.le_of_lt hBw)).trans hb2).trans hb3
  clear h3
  go_wp2_with fail
  go_end0
  exact ⟨⟨_, rfl⟩, HB3.out, hbt⟩

theorem join_p (p : Pc) (o : ByteArray) : o.data.toList ++ joinL (pWords p) ++ [10] = (o ++ lineP p).data.toList := by
  simp [joinL, pWords, lineP, Lib.join_cons, Lib.joinTail, ByteArray.data_append]

theorem join_j {N : Nt} (R : RightN N) {k : Nat} (hk : k < N.jts.length) (o : ByteArray) : o.data.toList ++ joinL (jWords N.pcs N.jts[k]) ++ [10] = (jLine N.pcs o N.jts[k]).data.toList := by
  have hn := R.named k hk
  have he : ∀ (es : List (Int × Int)) (q : ByteArray), (jEnds N.pcs es q).data.toList = q.data.toList ++ Lib.joinTail [32] ((es.map (eWord N.pcs)).map (·.data.toList)) := by
    intro es
    induction es with
    | nil => intro q; simp [jEnds, Lib.joinTail]
    | cons e es ih =>
      intro q
      have : jEnds N.pcs (e :: es) q = jEnds N.pcs es (q ++ endT N.pcs e) := rfl
      rw [this, ih]
      simp [endT, eWord, Lib.joinTail, ByteArray.data_append]
  unfold jLine
  rw [ByteArray.data_append, Array.toList_append, he]
  unfold jWords jHead joinL
  by_cases h3 : 3 ≤ N.jts[k].kind
  · rw [if_pos h3, if_neg (hn.1 h3)]
    simp [Lib.join_cons, Lib.joinTail, ByteArray.data_append]
  · rw [if_neg h3, if_pos (by
      by_cases h : N.jts[k].name.size = 0
      · exact h
      · exact absurd (hn.2 h) h3)]
    simp [Lib.join_cons, Lib.joinTail, ByteArray.data_append]
end Go.Proofs.YtcodpnkfpmjleaaGreatDoor

namespace Go.Proofs.YtcodpnkfpmjleaaGreatDoor
open Go.RowKit
set_option maxHeartbeats 1000000

theorem jointOk_1 (s : ByteArray) (a : Option Addr) (es : List (Int × Int)) (cap n : Nat) (w : World) (hn : n ≤ 1048576) (hl : es.length ≤ 1048576) (he : EndsAt w a es) :
    Calls Tryz.prog 77 #[.agg #[.int .i64 1, .string s, .slice a es.length cap], .int .i64 n] w fun e w' =>
    e = .returned (.bool (!((es.length : Int) != 1 || es.any (fun e => !endOk n e)))) ∧ Below w.heap.size w w' := by
  have HE := hide he
  clear he
  have hm := ms_1
  cases hq : ((es.length : Int) != 1)
  · skip
    go_enter Tryz.func77, Tryz.ntmps77
    go_wp2_with fail
    refine (kindOf_1 _).mono ?_
    rintro e w1 ⟨rfl, rfl⟩
    go_wp2_with fail
    go_region_with (go_at_call 201; refine (size_1 _).mono ?_; rintro e w1 ⟨rfl, hb1⟩; obtain ⟨hc, hf⟩ := bcell hb1)
    all_goals
      have hbA : Below w.heap.size w w1 := (((Below.refl _ _).alloc (Nat.le_refl _) _).drew).trans (hb1.mono (by simp))
      have d2 : w1.cell? ⟨w.heap.size, 2, none⟩ = some (.slice a es.length cap) := by rw [hc _ _ (by simp)]; simp [go_sem]
      clear hc hf hm
      go_wp2_with fail
      go_loopw [24] (fun i wr => ∃ (t : Nat), t ≤ es.length ∧ i = .int .i64 t ∧ (∀ u (_ : u < t) (hu : u < es.length), endOk n es[u] = true) ∧ Below w.heap.size w wr) (fun i _ => es.length - (intOf i).toNat)
      case atStart => exact ⟨0, Nat.zero_le _, rfl, by intro u hu; omega, hbA⟩
      case round =>
        obtain ⟨t, ht, rfl, hall, hb⟩ := hrel
        have HA := hide hall
        clear hall
        by_cases hti : t < es.length
        · obtain ⟨b2, off2, rfl, d0, d1⟩ := (EndsAt.later HE.out hb) t hti
          have hbB : Below w.heap.size w (wr.alloc (.cells #[.int .i64 es[t].1, .int .i64 es[t].2] 75)) := hb.alloc hb.size _
          cases g1 : inR es[t].1 0 ((n : Int) - 1)
          · have G1 := hide g1
            clear g1
            go_wp2_with fail
            refine (inRange_any _ _ _ _).mono ?_
            rintro e w2 ⟨rfl, rfl⟩
            rw [G1.out]
            go_wp2_with fail
            go_ret
            refine ⟨ret_b ?_, hbB⟩
            rw [any_true' (l := es) (p := fun e => !endOk n e) hti (by simp [endOk, G1.out])]; rfl
          · have G1 := hide g1
            clear g1
            cases g2 : inR es[t].2 0 1
            · have G2 := hide g2
              clear g2
              go_wp2_with fail
              refine (inRange_any _ _ _ _).mono ?_
              rintro e w2 ⟨rfl, rfl⟩
              rw [G1.out]
              go_wp2_with fail
              refine (inRange_any _ _ _ _).mono ?_
              rintro e w2 ⟨rfl, rfl⟩
              rw [G2.out]
              go_wp2_with fail
              go_ret
              refine ⟨ret_b ?_, hbB⟩
              rw [any_true' (l := es) (p := fun e => !endOk n e) hti (by simp [endOk, G2.out])]; rfl
            · have G2 := hide g2
              clear g2
              go_wp2_with fail
              refine (inRange_any _ _ _ _).mono ?_
              rintro e w2 ⟨rfl, rfl⟩
              rw [G1.out]
              go_wp2_with fail
              refine (inRange_any _ _ _ _).mono ?_
              rintro e w2 ⟨rfl, rfl⟩
              rw [G2.out]
              go_wp2_with fail
              go_roundw
              case rel =>
                refine ⟨t + 1, by omega, by go_num, ?_, hbB⟩
                intro u hu hu'
                by_cases e : u = t
                · subst e; simp [endOk, G1.out, G2.out]
                · exact HA.out u (by omega) hu'
              case measure => simp [intOf]; omega
        · go_wp2_with fail
          go_ret
          refine ⟨ret_b ?_, hb⟩
          rw [any_false' (l := es) (p := fun e => !endOk n e) (fun u hu => by simp [HA.out u (by omega) hu])]; rfl
  · skip
    go_enter Tryz.func77, Tryz.ntmps77
    go_wp2_with fail
    refine (kindOf_1 _).mono ?_
    rintro e w1 ⟨rfl, rfl⟩
    go_wp2_with fail
    go_region_with (go_at_call 201; refine (size_1 _).mono ?_; rintro e w1 ⟨rfl, hb1⟩; obtain ⟨hc, hf⟩ := bcell hb1)
    all_goals
      have hbA : Below w.heap.size w w1 := (((Below.refl _ _).alloc (Nat.le_refl _) _).drew).trans (hb1.mono (by simp))
      clear hc hf hm
      go_wp2_with fail
      go_ret
      exact ⟨ret_b rfl, hbA⟩
end Go.Proofs.YtcodpnkfpmjleaaGreatDoor

namespace Go.Proofs.YtcodpnkfpmjleaaGreatDoor
open Go.RowKit
set_option maxHeartbeats 1000000

theorem jointOk_2 (s : ByteArray) (a : Option Addr) (es : List (Int × Int)) (cap n : Nat) (w : World) (hn : n ≤ 1048576) (hl : es.length ≤ 1048576) (he : EndsAt w a es) :
    Calls Tryz.prog 77 #[.agg #[.int .i64 2, .string s, .slice a es.length cap], .int .i64 n] w fun e w' =>
    e = .returned (.bool (!((es.length : Int) != 2 || es.any (fun e => !endOk n e)))) ∧ Below w.heap.size w w' := by
  have HE := hide he
  clear he
  have hm := ms_2
  cases hq : ((es.length : Int) != 2)
  · skip
    go_enter Tryz.func77, Tryz.ntmps77
    go_wp2_with fail
    refine (kindOf_2 _).mono ?_
    rintro e w1 ⟨rfl, rfl⟩
    go_wp2_with fail
    go_region_with (go_at_call 203; refine (size_2 _).mono ?_; rintro e w1 ⟨rfl, hb1⟩; obtain ⟨hc, hf⟩ := bcell hb1)
    all_goals
      have hbA : Below w.heap.size w w1 := (((Below.refl _ _).alloc (Nat.le_refl _) _).drew).trans (hb1.mono (by simp))
      have d2 : w1.cell? ⟨w.heap.size, 2, none⟩ = some (.slice a es.length cap) := by rw [hc _ _ (by simp)]; simp [go_sem]
      clear hc hf hm
      go_wp2_with fail
      go_loopw [24] (fun i wr => ∃ (t : Nat), t ≤ es.length ∧ i = .int .i64 t ∧ (∀ u (_ : u < t) (hu : u < es.length), endOk n es[u] = true) ∧ Below w.heap.size w wr) (fun i _ => es.length - (intOf i).toNat)
      case atStart => exact ⟨0, Nat.zero_le _, rfl, by intro u hu; omega, hbA⟩
      case round =>
        obtain ⟨t, ht, rfl, hall, hb⟩ := hrel
        have HA := hide hall
        clear hall
        by_cases hti : t < es.length
        · obtain ⟨b2, off2, rfl, d0, d1⟩ := (EndsAt.later HE.out hb) t hti
          have hbB : Below w.heap.size w (wr.alloc (.cells #[.int .i64 es[t].1, .int .i64 es[t].2] 75)) := hb.alloc hb.size _
          cases g1 : inR es[t].1 0 ((n : Int) - 1)
          · have G1 := hide g1
            clear g1
            go_wp2_with fail
            refine (inRange_any _ _ _ _).mono ?_
            rintro e w2 ⟨rfl, rfl⟩
            rw [G1.out]
            go_wp2_with fail
            go_ret
            refine ⟨ret_b ?_, hbB⟩
            rw [any_true' (l := es) (p := fun e => !endOk n e) hti (by simp [endOk, G1.out])]; rfl
          · have G1 := hide g1
            clear g1
            cases g2 : inR es[t].2 0 1
            · have G2 := hide g2
              clear g2
              go_wp2_with fail
              refine (inRange_any _ _ _ _).mono ?_
              rintro e w2 ⟨rfl, rfl⟩
              rw [G1.out]
              go_wp2_with fail
              refine (inRange_any _ _ _ _).mono ?_
              rintro e w2 ⟨rfl, rfl⟩
              rw [G2.out]
              go_wp2_with fail
              go_ret
              refine ⟨ret_b ?_, hbB⟩
              rw [any_true' (l := es) (p := fun e => !endOk n e) hti (by simp [endOk, G2.out])]; rfl
            · have G2 := hide g2
              clear g2
              go_wp2_with fail
              refine (inRange_any _ _ _ _).mono ?_
              rintro e w2 ⟨rfl, rfl⟩
              rw [G1.out]
              go_wp2_with fail
              refine (inRange_any _ _ _ _).mono ?_
              rintro e w2 ⟨rfl, rfl⟩
              rw [G2.out]
              go_wp2_with fail
              go_roundw
              case rel =>
                refine ⟨t + 1, by omega, by go_num, ?_, hbB⟩
                intro u hu hu'
                by_cases e : u = t
                · subst e; simp [endOk, G1.out, G2.out]
                · exact HA.out u (by omega) hu'
              case measure => simp [intOf]; omega
        · go_wp2_with fail
          go_ret
          refine ⟨ret_b ?_, hb⟩
          rw [any_false' (l := es) (p := fun e => !endOk n e) (fun u hu => by simp [HA.out u (by omega) hu])]; rfl
  · skip
    go_enter Tryz.func77, Tryz.ntmps77
    go_wp2_with fail
    refine (kindOf_2 _).mono ?_
    rintro e w1 ⟨rfl, rfl⟩
    go_wp2_with fail
    go_region_with (go_at_call 203; refine (size_2 _).mono ?_; rintro e w1 ⟨rfl, hb1⟩; obtain ⟨hc, hf⟩ := bcell hb1)
    all_goals
      have hbA : Below w.heap.size w w1 := (((Below.refl _ _).alloc (Nat.le_refl _) _).drew).trans (hb1.mono (by simp))
      clear hc hf hm
      go_wp2_with fail
      go_ret
      exact ⟨ret_b rfl, hbA⟩
end Go.Proofs.YtcodpnkfpmjleaaGreatDoor

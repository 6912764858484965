/- impl.writeLine, and lines as joined words. Own work. -/
import Derived.Test.YtokhbnlpifmjkaaDoorWnJ
namespace Go.Proofs.YtokhbnlpifmjkaaDoor
open Go.RowKit
set_option maxHeartbeats 2000000

def joinL (xs : List ByteArray) : List UInt8 := Lib.join (xs.map (·.data.toList)) [32]

/-- A builder of the call's own in block B that holds these bytes. -/
abbrev Bld (B : Nat) (l : List UInt8) (w : World) : Prop := Lib.IsBuilderF 55 5 B B (Lib.byteCells l) w

theorem bld_new (w : World) : Bld w.heap.size [] (w.alloc (.cells #[.pointer none, .slice none 0 0] 55)) :=
  .inl ⟨Nat.le_refl _, .slice none 0 0, heap_alloc_new w _, ⟨by simp [Lib.byteCells], .inl ⟨rfl, rfl⟩⟩, by simp [Value.ownBlock]⟩

theorem Bld.later {B : Nat} {l : List UInt8} {w w' : World} (h : Bld B l w) (hb : Below w.heap.size w w') : Bld B l w' := Lib.IsBuilderF.below h hb

theorem Bld.lt {B : Nat} {l : List UInt8} {w : World} (h : Bld B l w) : B < w.heap.size := by
  rcases h with h | h
  · exact h.lt
  · exact h.lt

set_option maxRecDepth 20000 in
theorem writeLine_any (B g c : Nat) (xs : List ByteArray) (l : List UInt8) (w : World) (hbl : Bld B l w) (hxs : StrsAt w g xs) (hg : g < w.heap.size) (hc : xs.length ≤ c) (hn : xs.length ≤ 100) (hj : (joinL xs).length ≤ 1000) (hl : l.length ≤ 1000000) :
    Calls Tryd.prog 16 #[.pointer (some ⟨B, 0, none⟩), .slice (some ⟨g, 0, none⟩) xs.length c] w fun e w' =>
    (∃ v, e = .returned v) ∧ Bld B (l ++ joinL xs ++ [10]) w' ∧ Below B w w' := by
  have HBL := hide hbl
  have HXS := hide hxs
  generalize hJ : joinL xs = J at hj ⊢
  have HJ := hide hJ
  clear hbl hxs hJ
  go_enter Tryd.func16, Tryd.ntmps16
  go_wp2_with fail
  refine (Tryd.strings_Join g 0 c xs ⟨#[32]⟩ w HXS.out hg (by omega) hc (by show (joinL xs).length ≤ _; rw [HJ.out]; omega)).mono ?_
  rintro e w1 ⟨rfl, hb1⟩
  have HBL1 := hide (HBL.out.later hb1)
  have hB1 := HBL1.out.lt
  have HS := hide (show (⟨(Lib.join (xs.map (·.data.toList)) (ByteArray.mk #[32]).data.toList).toArray⟩ : ByteArray) = ⟨J.toArray⟩ by rw [← HJ.out]; rfl)
  rw [HS.out]
  clear HS HJ
  go_wp2_with fail
  refine (Tryd.Builder_WriteString_k B B _ _ w1 HBL1.out (by rw [Lib.byteCells_length]; show l.length + J.toArray.size ≤ _; rw [List.size_toArray]; omega) (by omega)).mono ?_
  rintro e w2 ⟨rfl, h2, hb2, _⟩
  have HB2 := hide (show Bld B (l ++ J) w2 by
    have e : Lib.byteCells (l ++ J) = Lib.byteCells l ++ Lib.strCells ⟨J.toArray⟩ := by rw [Lib.byteCells_append, Lib.strCells_toArray]
    show Lib.IsBuilderF _ _ _ _ (Lib.byteCells (l ++ J)) _
    rw [e]
    exact .inr h2)
  have hB2 := HB2.out.lt
  clear h2
  go_wp2_with fail
  refine (Tryd.Builder_WriteByte_k B B _ 10 w2 HB2.out (by rw [Lib.byteCells_length, List.length_append]; omega) (by omega)).mono ?_
  rintro e w3 ⟨rfl, h3, hb3, _⟩
  have HB3 := hide (show Bld B (l ++ J ++ [10]) w3 by
    have e : Lib.byteCells (l ++ J ++ [10]) = Lib.byteCells (l ++ J) ++ [.int .u8 10] := by rw [Lib.byteCells_append]; rfl
    show Lib.IsBuilderF _ _ _ _ (Lib.byteCells (l ++ J ++ [10])) _
    rw [e]
    exact .inr h3)
  have hBw := HBL.out.lt
  have hbt := ((hb1.mono (Nat.le_of_lt hBw)).trans hb2).trans hb3
  clear h3
  go_wp2_with fail
  go_end0
  exact ⟨⟨_, rfl⟩, HB3.out, hbt⟩

theorem join_p (p : Pc) (o : ByteArray) : o.data.toList ++ joinL (pWords p) ++ [10] = (o ++ lineP p).data.toList := by
  simp [joinL, pWords, lineP, Lib.join_cons, Lib.joinTail, ByteArray.data_append]

theorem join_j {N : Nt} (R : RightN N) {k : Nat} (hk : k < N.jts.length) (o : ByteArray) : o.data.toList ++ joinL (jWords N.pcs N.jts[k]) ++ [10] = (jLine N.pcs o N.jts[k]).data.toList := by
  have hn := R.named k hk
  have he : ∀ (es : List (Int × Int)) (q : ByteArray), (jEnds N.pcs es q).data.toList = q.data.toList ++ Lib.joinTail [32] ((es.map (eWord N.pcs)).map (·.data.toList)) := by
    intro es
    induction es with
    | nil => intro q; simp [jEnds, Lib.joinTail]
    | cons e es ih =>
      intro q
      have : jEnds N.pcs (e :: es) q = jEnds N.pcs es (q ++ endT N.pcs e) := rfl
      rw [this, ih]
      simp [endT, eWord, Lib.joinTail, ByteArray.data_append]
  unfold jLine
  rw [ByteArray.data_append, Array.toList_append, he]
  unfold jWords jHead joinL
  by_cases h3 : 3 ≤ N.jts[k].kind
  · rw [if_pos h3, if_neg (hn.1 h3)]
    simp [Lib.join_cons, Lib.joinTail, ByteArray.data_append]
  · rw [if_neg h3, if_pos (by
      by_cases h : N.jts[k].name.size = 0
      · exact h
      · exact absurd (hn.2 h) h3)]
    simp [Lib.join_cons, Lib.joinTail, ByteArray.data_append]
end Go.Proofs.YtokhbnlpifmjkaaDoor

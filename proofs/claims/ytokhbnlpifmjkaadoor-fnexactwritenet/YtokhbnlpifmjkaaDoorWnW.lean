/- impl.WriteNet. Own work. -/
import Derived.Test.YtokhbnlpifmjkaaDoorWnL
import Derived.Test.YtokhbnlpifmjkaaDoorImH
namespace Go.Proofs.YtokhbnlpifmjkaaDoor
open Go.RowKit
set_option maxHeartbeats 2000000

/-- What holds between the rounds of impl.WriteNet. -/
structure WI (w : World) (B : Nat) (l : List UInt8) (v0 v1 : Value) (wr : World) : Prop where
  n0 : wr.cell? ⟨w.heap.size, 0, none⟩ = some v0
  n1 : wr.cell? ⟨w.heap.size, 1, none⟩ = some v1
  hB : w.heap.size < B
  bld : Bld B l wr
  below : Below w.heap.size w wr
  tab : Tab wr

theorem WI.later {w w1 w2 : World} {B : Nat} {l : List UInt8} {v0 v1 : Value} (h : WI w B l v0 v1 w1) (hb : Below w1.heap.size w1 w2) : WI w B l v0 v1 w2 :=
  ⟨cell_later' hb h.n0, cell_later' hb h.n1, h.hB, h.bld.later hb, h.below.trans (hb.mono h.below.size), h.tab.later hb⟩

/-- A line was written. -/
theorem WI.wrote {w w1 w2 : World} {B : Nat} {l l' : List UInt8} {v0 v1 : Value} (h : WI w B l v0 v1 w1) (h0 : Tab w) (hb : Below B w1 w2) (hl : Bld B l' w2) : WI w B l' v0 v1 w2 :=
  have hbw := h.below.trans (hb.mono (Nat.le_of_lt h.hB))
  ⟨cell_keep hb h.hB h.n0, cell_keep hb h.hB h.n1, h.hB, hl, hbw, h0.later hbw⟩

theorem joinP_len {p : Pc} (h : p.ok = true) : (joinL (pWords p)).length ≤ 100 := by
  have h1 := congrArg List.length (join_p p ⟨#[]⟩)
  have h2 := lineP_size h
  simp only [List.length_append, List.length_cons, List.length_nil, Array.length_toList] at h1
  have e : (ByteArray.mk #[] ++ lineP p).data.size = (lineP p).size := by
    show (ByteArray.mk #[] ++ lineP p).size = _
    rw [ByteArray.size_append]
    have : (ByteArray.mk #[]).size = 0 := rfl
    omega
  omega

theorem joinJ_len {N : Nt} (R : RightN N) {k : Nat} (hk : k < N.jts.length) : (joinL (jWords N.pcs N.jts[k])).length ≤ 200 := by
  have h1 := congrArg List.length (join_j R hk ⟨#[]⟩)
  simp only [List.length_append, List.length_cons, List.length_nil, Array.length_toList] at h1
  have h2 : (jLine N.pcs ⟨#[]⟩ N.jts[k]).size ≤ 200 := by
    have h1 := jEnds_size R hk N.jts[k].ends.length (Nat.le_refl _) (jHead N.jts[k] ⟨#[]⟩)
    rw [List.take_length] at h1
    have h2 := jHead_size R hk ⟨#[]⟩
    have h3 := R.elen k hk
    unfold jLine
    rw [ByteArray.size_append]
    have e5 : (ByteArray.mk #[10]).size = 1 := rfl
    have e6 : (ByteArray.mk #[]).size = 0 := rfl
    omega
  have e : (jLine N.pcs ⟨#[]⟩ N.jts[k]).data.size = (jLine N.pcs ⟨#[]⟩ N.jts[k]).size := rfl
  omega

theorem jWords_len {N : Nt} (R : RightN N) {k : Nat} (hk : k < N.jts.length) : (jWords N.pcs N.jts[k]).length ≤ 6 := by
  have := R.elen k hk
  unfold jWords
  rw [List.length_append, List.length_map]
  split
  · simp; omega
  · simp; omega

set_option maxRecDepth 20000 in
theorem implWriteNet_any (a a' : Option Addr) (N : Nt) (cap cap' : Nat) (w : World) (hn : N.pcs.length ≤ 1048576) (hs : ∀ p ∈ N.pcs, p.name.size ≤ 1048576) (hl : N.jts.length ≤ 1048576) (hm : ∀ j ∈ N.jts, j.name.size ≤ 1048576 ∧ j.ends.length ≤ 1048576) (hp : PcsAt w a N.pcs) (hj : JtsAt w a' N.jts) (ht : Tab w) :
    Calls Tryd.prog 7 #[.agg #[.slice a N.pcs.length cap, .slice a' N.jts.length cap']] w fun e w' =>
    e = .returned (.string (if netOk N = (0, 0) then wText N else ⟨#[]⟩)) ∧ Below w.heap.size w w' := by
  have HP := hide hp
  have HJ := hide hj
  have HM := hide hm
  have HS := hide hs
  have HT := hide ht
  clear hp hj hm hs ht
  generalize hRes : (if netOk N = (0, 0) then wText N else ⟨#[]⟩) = Res
  have HRES := hide hRes
  clear hRes
  go_enter Tryd.func7, Tryd.ntmps7
  go_wp2_with fail
  have hbW : Below w.heap.size w (w.alloc (.cells #[.slice a N.pcs.length cap, .slice a' N.jts.length cap'] 31)) := (Below.refl _ _).alloc (Nat.le_refl _) _
  refine (implNetOk_any a a' N cap cap' _ hn HS.out hl HM.out (HP.out.later hbW) (HJ.out.later hbW)).mono ?_
  rintro e w1 ⟨rfl, hb1⟩
  have n0 := box_cell hb1 0 _ rfl
  have n1 := box_cell hb1 1 _ rfl
  have hb := hbW.trans (hb1.mono hbW.size)
  have hz0 := cell_lt n0
  clear hb1 hbW
  by_cases hok : netOk N = (0, 0)
  case neg =>
    have HX := hide (show Res = ⟨#[]⟩ by rw [← HRES.out, if_neg hok])
    have hc := netOk_code (N := N)
    rw [decide_eq_false hok] at hc
    have hc' : ¬ (netOk N).1 = 0 := by simpa using hc
    clear hok hc
    go_wp2_with fail
    go_ret
    exact ⟨by rw [HX.out]; rfl, hb⟩
  have HX := hide (show Res = wText N by rw [← HRES.out, if_pos hok])
  have HR := hide (rightN hok)
  rw [hok]
  clear hok HRES
  have hlp := HR.out.lp
  have hlj := HR.out.lj
  go_wp2_with fail
  have hbn : Below w1.heap.size w1 (w1.alloc (.cells #[.pointer none, .slice none 0 0] 55)) := (Below.refl _ _).alloc (Nat.le_refl _) _
  have HW0 : Hid (WI w w1.heap.size [] (.slice a N.pcs.length cap) (.slice a' N.jts.length cap') (w1.alloc (.cells #[.pointer none, .slice none 0 0] 55))) :=
    ⟨cell_later' hbn n0, cell_later' hbn n1, hz0, bld_new w1, hb.trans (hbn.mono hb.size), (HT.out.later hb).later hbn⟩
  clear hbn n0 n1 hb hz0
  go_loopw [5, 15] (fun _ i wr => ∃ (k : Nat), k ≤ N.pcs.length ∧ i = .int .i64 k ∧ WI w w1.heap.size (wPcs (N.pcs.take k) ⟨#[]⟩).data.toList (.slice a N.pcs.length cap) (.slice a' N.jts.length cap') wr) (fun _ i _ => N.pcs.length - (intOf i).toNat)
  case atStart => exact ⟨0, Nat.zero_le _, rfl, HW0.out⟩
  case round =>
    obtain ⟨k, hk, rfl, hWI⟩ := hrel
    have HWI := hide hWI
    obtain ⟨n0, n1, _, _, hb, _⟩ := hWI
    have hz0 := cell_lt n0
    by_cases hlt : k < N.pcs.length
    · obtain ⟨b, off, rfl, c0, c1, c2, c3⟩ := (PcsAt.later HP.out hb) k hlt
      have hblt := cell_lt c0
      have hO := wPcs_size' HR.out k hk
      have HPO := hide (HR.out.pc k hlt)
      have HSUC := hide (wPcs_succ N.pcs k hlt ⟨#[]⟩)
      generalize wPcs (N.pcs.take k) ⟨#[]⟩ = o at HSUC hO HWI
      have hA : Below wr.heap.size wr (wr.alloc (.cells #[.string N.pcs[k].name, .int .i64 N.pcs[k].len, .int .i64 N.pcs[k].speed, .int .i64 N.pcs[k].brake] 39)) := (Below.refl _ _).alloc (Nat.le_refl _) _
      have HWA := hide (HWI.out.later hA)
      go_wp2_with fail
      refine (pieceWords_any N.pcs[k] _ HPO.out HWA.out.tab).mono ?_
      rintro e w2 ⟨g, rfl, hst, hg, hb2⟩
      have HW2 := hide (HWA.out.later hb2)
      have HST := hide hst
      clear hst hb2
      go_wp2_with fail
      refine (writeLine_any w1.heap.size g 7 (pWords N.pcs[k]) o.data.toList w2 HW2.out.bld HST.out hg (Nat.le_refl _) (by simp [pWords]) (Nat.le_trans (joinP_len HPO.out) (by omega)) (by rw [Array.length_toList]; show o.size ≤ _; omega)).mono ?_
      rintro e w3 ⟨⟨v, rfl⟩, hB3, hb3⟩
      have HW3 := hide (HW2.out.wrote HT.out hb3 hB3)
      clear hB3 hb3
      go_wp2_with fail
      refine ⟨⟨k + 1, by omega, by go_num, ?_⟩, by simp [intOf]; omega⟩
      rw [HSUC.out, ← join_p]
      exact HW3.out
    · obtain rfl : k = N.pcs.length := by omega
      rw [List.take_length] at HWI
      have hO := wPcs_size' HR.out N.pcs.length (Nat.le_refl _)
      rw [List.take_length] at hO
      have HX2 := hide (show Res = wJts N.pcs N.jts (wPcs N.pcs ⟨#[]⟩) from HX.out)
      generalize wPcs N.pcs ⟨#[]⟩ = o1 at HX2 hO HWI
      go_wp2_with fail
      go_loopw [7, 26] (fun _ i wr => ∃ (k : Nat), k ≤ N.jts.length ∧ i = .int .i64 k ∧ WI w w1.heap.size (wJts N.pcs (N.jts.take k) o1).data.toList (.slice a N.pcs.length cap) (.slice a' N.jts.length cap') wr) (fun _ i _ => N.jts.length - (intOf i).toNat)
      case atStart => exact ⟨0, Nat.zero_le _, rfl, HWI.out⟩
      case round =>
        obtain ⟨k, hk, rfl, hWJ⟩ := hrel
        have HWJ := hide hWJ
        clear n0 n1 hb hz0
        obtain ⟨n0, n1, _, _, hb, _⟩ := hWJ
        have hz0 := cell_lt n0
        by_cases hlt : k < N.jts.length
        · obtain ⟨b, off, ea, ec, rfl, c0, c1, c2, ce⟩ := (JtsAt.later HJ.out hb) k hlt
          have hblt := cell_lt c0
          have CE := hide ce
          clear ce
          have hO2 := wJts_size HR.out k hk o1
          have HSUC := hide (wJts_succ N.pcs N.jts k hlt o1)
          generalize wJts N.pcs (N.jts.take k) o1 = o2 at HSUC hO2 HWJ
          have hA : Below wr.heap.size wr (wr.alloc (.cells #[.int .i64 N.jts[k].kind, .string N.jts[k].name, .slice ea N.jts[k].ends.length ec] 43)) := (Below.refl _ _).alloc (Nat.le_refl _) _
          have HWA := hide (HWJ.out.later hA)
          have hjl := jWords_len HR.out hlt
          go_wp2_with fail
          refine (jointWords_any a ea N.pcs cap ec N.jts[k].kind N.jts[k].name N.jts[k].ends _ HR.out.pc (HR.out.kind k hlt) (HR.out.elen k hlt) (HR.out.ends k hlt) hlp (HP.out.later HWA.out.below) (CE.out.later hA) HWA.out.tab).mono ?_
          rintro e w2 ⟨g, c, rfl, hgc, hst, hg, hb2⟩
          have HW2 := hide (HWA.out.later hb2)
          have HST := hide hst
          clear hst hb2
          go_wp2_with fail
          refine (writeLine_any w1.heap.size g c (jWords N.pcs N.jts[k]) o2.data.toList w2 HW2.out.bld HST.out hg hgc (by omega) (Nat.le_trans (joinJ_len HR.out hlt) (by omega)) (by rw [Array.length_toList]; show o2.size ≤ _; omega)).mono ?_
          rintro e w3 ⟨⟨v, rfl⟩, hB3, hb3⟩
          have HW3 := hide (HW2.out.wrote HT.out hb3 hB3)
          clear hB3 hb3
          go_wp2_with fail
          refine ⟨⟨k + 1, by omega, by go_num, ?_⟩, by simp [intOf]; omega⟩
          rw [HSUC.out, ← join_j HR.out hlt]
          exact HW3.out
        · go_wp2_with fail
          refine (Tryd.Builder_String_any_k w1.heap.size w1.heap.size _ wr HWJ.out.bld (Nat.le_of_lt HWJ.out.bld.lt)).mono ?_
          rintro e w2 ⟨rfl, _, hb2, _⟩
          have hfin := hb.trans (hb2.mono (Nat.le_of_lt HWJ.out.hB))
          go_wp2_with fail
          go_ret
          refine ⟨?_, hfin⟩
          rw [HX2.out, List.take_of_length_le (by omega)]
          rfl
end Go.Proofs.YtokhbnlpifmjkaaDoor

/- The drawn laws' own helpers: wInts, wNet; numbers that fit. Own work. -/
import Derived.Test.YteapmddadieohaaDwI
import Derived.Test.YteapmddadieohaaMxAI
namespace Go.Proofs.Yteapmddadieohaa
open Go.RowKit
set_option maxHeartbeats 2000000

theorem wf_int {x : Int} (h0 : -4611686018427387904 ≤ x) (h1 : x ≤ 4611686018427387904) : (Lit.int .i64 x).wf = true := by
  simp only [Lit.wf, IntKind.min, IntKind.max, IntKind.bits, IntKind.signed, Bool.and_eq_true, decide_eq_true_eq]
  simp
  omega
theorem ints_of_owns {w : World} {base : Nat} {v : Value} {xs : List Int} (h : w.ownsRow base 3 1 v xs.length (xs.map (Value.int .i64))) : ∃ z zc, v = .slice z xs.length zc ∧ IntsAt w z xs := by
  rcases h.2 with ⟨rfl, h0⟩ | ⟨g, cap, cur, rfl, _⟩
  · exact ⟨none, 0, by rw [h0], fun k hk => by omega⟩
  · refine ⟨_, cap, rfl, fun k hk => ⟨g, 0, rfl, ?_⟩⟩
    rw [Nat.zero_add, h.cellAt _ (by omega)]
    simp [hk]
theorem liesL_bd (N : Nt) (code : List Int) : ∀ x ∈ liesL N code, 0 ≤ x ∧ x ≤ 2 := by
  unfold liesL
  generalize N.jts.length = n
  induction n with
  | zero => intro x hx; simp [liesD] at hx
  | succ n ih =>
    intro x hx
    rw [liesD] at hx
    have hp := pickV_bd (code := code) (n := 2) (by omega) (liesD code N.jts n).2
    split at hx
    · simp only [List.mem_append, List.mem_singleton] at hx
      rcases hx with hx | hx
      · exact ih x hx
      · omega
    · simp only [List.mem_append, List.mem_singleton] at hx
      rcases hx with hx | hx
      · exact ih x hx
      · omega
theorem liesL_len (N : Nt) (code : List Int) : (liesL N code).length = N.jts.length := liesD_len code N.jts N.jts.length

theorem wInts_same (a a' : Option Addr) (xs : List Int) (cap cap' : Nat) (w : World) (hn : xs.length ≤ 1048576) (hp : IntsAt w a xs) (hp' : IntsAt w a' xs) :
    Calls Try.prog 13 #[.slice a xs.length cap, .slice a' xs.length cap'] w fun e w' =>
    e = .returned (.bool true) ∧ Below w.heap.size w w' := by
  have HP := hide hp
  have HP' := hide hp'
  clear hp hp'
  go_enter Try.func13, Try.ntmps13
  go_wp2
  go_loopw [5, 13] (fun _ i wr => ∃ (k : Nat), k ≤ xs.length ∧ i = .int .i64 k ∧ Below w.heap.size w wr) (fun _ i _ => xs.length - (intOf i).toNat)
  case atStart => exact ⟨0, Nat.zero_le _, rfl, Below.refl _ _⟩
  case round =>
    obtain ⟨k, hk, rfl, hb⟩ := hrel
    by_cases hlt : k < xs.length
    · obtain ⟨b, off, rfl, c0⟩ := (IntsAt.later HP.out hb) k hlt
      obtain ⟨b', off', rfl, c0'⟩ := (IntsAt.later HP'.out hb) k hlt
      have hi1 : (k : Int) < (xs.length : Int) := by omega
      go_wp2_with fail
      go_quiet (fail)
      go_wp2_with fail
      exact ⟨⟨k + 1, by omega, by go_num, below_drewN hb _⟩, by simp [intOf]; omega⟩
    · go_wp2_with fail
      go_ret
      exact ⟨rfl, hb⟩

theorem wNet_same (a a' b b' : Option Addr) (N : Nt) (ca ca' cb cb' : Nat) (w : World) (hn : N.pcs.length ≤ 1048576) (hn' : N.jts.length ≤ 1048576) (hm : ∀ j ∈ N.jts, j.ends.length ≤ 1048576) (hp : PcsAt w a N.pcs) (hp' : PcsAt w a' N.pcs) (hj : JtsAt w b N.jts) (hj' : JtsAt w b' N.jts) :
    Calls Try.prog 12 #[.agg #[.slice a N.pcs.length ca, .slice b N.jts.length cb], .agg #[.slice a' N.pcs.length ca', .slice b' N.jts.length cb']] w fun e w' =>
    e = .returned (.bool true) ∧ Below w.heap.size w w' := by
  have HP := hide hp
  have HP' := hide hp'
  have HJ := hide hj
  have HJ' := hide hj'
  have HM := hide hm
  have hbW : Below w.heap.size w ((w.alloc (.cells #[.slice a N.pcs.length ca, .slice b N.jts.length cb] 26)).alloc (.cells #[.slice a' N.pcs.length ca', .slice b' N.jts.length cb'] 26)) := ((Below.refl _ _).alloc (Nat.le_refl _) _).alloc (by simp) _
  have n0 : ((w.alloc (.cells #[.slice a N.pcs.length ca, .slice b N.jts.length cb] 26)).alloc (.cells #[.slice a' N.pcs.length ca', .slice b' N.jts.length cb'] 26)).cell? ⟨w.heap.size, 0, none⟩ = some (.slice a N.pcs.length ca) := by simp [go_sem]
  have n1 : ((w.alloc (.cells #[.slice a N.pcs.length ca, .slice b N.jts.length cb] 26)).alloc (.cells #[.slice a' N.pcs.length ca', .slice b' N.jts.length cb'] 26)).cell? ⟨w.heap.size, 1, none⟩ = some (.slice b N.jts.length cb) := by simp [go_sem]
  have m0 : ((w.alloc (.cells #[.slice a N.pcs.length ca, .slice b N.jts.length cb] 26)).alloc (.cells #[.slice a' N.pcs.length ca', .slice b' N.jts.length cb'] 26)).cell? ⟨w.heap.size + 1, 0, none⟩ = some (.slice a' N.pcs.length ca') := by simp [go_sem]
  have m1 : ((w.alloc (.cells #[.slice a N.pcs.length ca, .slice b N.jts.length cb] 26)).alloc (.cells #[.slice a' N.pcs.length ca', .slice b' N.jts.length cb'] 26)).cell? ⟨w.heap.size + 1, 1, none⟩ = some (.slice b' N.jts.length cb') := by simp [go_sem]
  clear hp hp' hj hj' hm
  go_enter Try.func12, Try.ntmps12
  go_wp2_with fail
  generalize ((w.alloc (.cells #[.slice a N.pcs.length ca, .slice b N.jts.length cb] 26)).alloc (.cells #[.slice a' N.pcs.length ca', .slice b' N.jts.length cb'] 26)) = w1 at *
  go_loopw [5, 29] (fun _ i wr => ∃ (k : Nat), k ≤ N.pcs.length ∧ i = .int .i64 k ∧ (wr.cell? ⟨w.heap.size, 0, none⟩ = some (.slice a N.pcs.length ca) ∧ wr.cell? ⟨w.heap.size, 1, none⟩ = some (.slice b N.jts.length cb) ∧ wr.cell? ⟨w.heap.size + 1, 0, none⟩ = some (.slice a' N.pcs.length ca') ∧ wr.cell? ⟨w.heap.size + 1, 1, none⟩ = some (.slice b' N.jts.length cb')) ∧ Hid (Below w.heap.size w wr)) (fun _ i _ => N.pcs.length - (intOf i).toNat)
  case atStart => exact ⟨0, Nat.zero_le _, rfl, ⟨n0, n1, m0, m1⟩, hbW⟩
  case round =>
    clear n0 n1 m0 m1
    obtain ⟨k, hk, rfl, ⟨n0, n1, m0, m1⟩, HBW⟩ := hrel
    have hz := cell_lt m0
    by_cases hlt : k < N.pcs.length
    · obtain ⟨pb, po, rfl, c0, c1, c2, c3⟩ := (HP.out.later HBW.out) k hlt
      obtain ⟨pb', po', rfl, d0, d1, d2, d3⟩ := (HP'.out.later HBW.out) k hlt
      have hi1 : (k : Int) < (N.pcs.length : Int) := by omega
      go_wp2_with fail
      go_quiet (fail)
      go_wp2_with fail
      exact ⟨⟨k + 1, by omega, by go_num, ⟨n0, n1, m0, m1⟩, below_drewN HBW.out _⟩, by simp [intOf]; omega⟩
    · obtain rfl : k = N.pcs.length := by omega
      go_wp2_with fail
      go_loopw [6, 7, 8, 9, 47] (fun _ _ _ _ i wx => ∃ (t : Nat), t ≤ N.jts.length ∧ i = .int .i64 t ∧ (wx.cell? ⟨w.heap.size, 0, none⟩ = some (.slice a N.pcs.length ca) ∧ wx.cell? ⟨w.heap.size, 1, none⟩ = some (.slice b N.jts.length cb) ∧ wx.cell? ⟨w.heap.size + 1, 0, none⟩ = some (.slice a' N.pcs.length ca') ∧ wx.cell? ⟨w.heap.size + 1, 1, none⟩ = some (.slice b' N.jts.length cb')) ∧ Hid (Below w.heap.size w wx)) (fun _ _ _ _ i _ => N.jts.length - (intOf i).toNat)
      case atStart => exact ⟨0, Nat.zero_le _, rfl, ⟨n0, n1, m0, m1⟩, HBW⟩
      case round =>
        clear n0 n1 m0 m1 HBW hz
        obtain ⟨t, ht, rfl, ⟨n0, n1, m0, m1⟩, HBW⟩ := hrel
        have hz := cell_lt m0
        by_cases htl : t < N.jts.length
        · obtain ⟨jb, jo, ea, ec, rfl, c0, c1, c2, hEA⟩ := (HJ.out.later HBW.out) t htl
          obtain ⟨jb', jo', ea', ec', rfl, d0, d1, d2, hEA'⟩ := (HJ'.out.later HBW.out) t htl
          have hi1 : (t : Int) < (N.jts.length : Int) := by omega
          have hml := HM.out _ (List.getElem_mem htl)
          have hjl := cell_lt c0
          have hjl' := cell_lt d0
          have hA : Below wr.heap.size wr ((wr.alloc (.cells #[.int .i64 N.jts[t].kind, .string N.jts[t].name, .slice ea N.jts[t].ends.length ec] 53)).alloc (.cells #[.int .i64 N.jts[t].kind, .string N.jts[t].name, .slice ea' N.jts[t].ends.length ec'] 53)) := ((Below.refl _ _).alloc (Nat.le_refl _) _).alloc (by simp) _
          have HE := hide (hEA.later hA)
          have HE' := hide (hEA'.later hA)
          have HBA := hide (HBW.out.trans (hA.mono HBW.out.size))
          have n0 := cell_later' hA n0
          have n1 := cell_later' hA n1
          have m0 := cell_later' hA m0
          have m1 := cell_later' hA m1
          have j2 : ((wr.alloc (.cells #[.int .i64 N.jts[t].kind, .string N.jts[t].name, .slice ea N.jts[t].ends.length ec] 53)).alloc (.cells #[.int .i64 N.jts[t].kind, .string N.jts[t].name, .slice ea' N.jts[t].ends.length ec'] 53)).cell? ⟨wr.heap.size, 2, none⟩ = some (.slice ea N.jts[t].ends.length ec) := by simp [go_sem]
          have j2' : ((wr.alloc (.cells #[.int .i64 N.jts[t].kind, .string N.jts[t].name, .slice ea N.jts[t].ends.length ec] 53)).alloc (.cells #[.int .i64 N.jts[t].kind, .string N.jts[t].name, .slice ea' N.jts[t].ends.length ec'] 53)).cell? ⟨wr.heap.size + 1, 2, none⟩ = some (.slice ea' N.jts[t].ends.length ec') := by simp [go_sem]
          clear hA hEA hEA'
          go_wp2_with fail
          generalize ((wr.alloc (.cells #[.int .i64 N.jts[t].kind, .string N.jts[t].name, .slice ea N.jts[t].ends.length ec] 53)).alloc (.cells #[.int .i64 N.jts[t].kind, .string N.jts[t].name, .slice ea' N.jts[t].ends.length ec'] 53)) = w2 at *
          generalize wr.heap.size = bj at *
          go_loopw [9, 84] (fun _ i wx => ∃ (x : Nat), x ≤ N.jts[t].ends.length ∧ i = .int .i64 x ∧ Hid (Below w2.heap.size w2 wx)) (fun _ i _ => N.jts[t].ends.length - (intOf i).toNat)
          case atStart => exact ⟨0, Nat.zero_le _, rfl, Below.refl _ _⟩
          case round =>
            obtain ⟨x, hx, rfl, HB2⟩ := hrel
            have j2 := cell_later' HB2.out j2
            have j2' := cell_later' HB2.out j2'
            by_cases hxl : x < N.jts[t].ends.length
            · obtain ⟨xb, xo, rfl, e0, e1⟩ := (HE.out.later HB2.out) x hxl
              obtain ⟨xb', xo', rfl, f0, f1⟩ := (HE'.out.later HB2.out) x hxl
              have hxi : (x : Int) < (N.jts[t].ends.length : Int) := by omega
              go_wp2_with fail
              go_quiet (fail)
              go_wp2_with fail
              exact ⟨⟨x + 1, by omega, by go_num, below_drewN HB2.out _⟩, by simp [intOf]; omega⟩
            · obtain rfl : x = N.jts[t].ends.length := by omega
              go_wp2_with fail
              refine ⟨⟨t + 1, by omega, by go_num, ⟨cell_later' HB2.out n0, cell_later' HB2.out n1, cell_later' HB2.out m0, cell_later' HB2.out m1⟩, HBA.out.trans (HB2.out.mono HBA.out.size)⟩, by simp [intOf]; omega⟩
        · obtain rfl : t = N.jts.length := by omega
          go_wp2_with fail
          go_ret
          exact ⟨rfl, HBW.out⟩
end Go.Proofs.Yteapmddadieohaa

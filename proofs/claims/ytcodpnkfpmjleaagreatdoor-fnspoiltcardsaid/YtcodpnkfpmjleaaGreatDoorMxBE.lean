/- A line that is written twice: how great the text is. Own work. -/
import Derived.Test.YtcodpnkfpmjleaaGreatDoorMxAF
import Derived.Test.YtcodpnkfpmjleaaGreatDoorMxAK
import Derived.Test.YtcodpnkfpmjleaaGreatDoorRnS
import Derived.Deep.RegionHeld3
import Derived.BigQuiet
import Derived.Test.YtcodpnkfpmjleaaGreatDoorMxBD
import Derived.Test.YtcodpnkfpmjleaaGreatDoorMxAT
import Derived.Deep.CutRange
import Derived.Deep.DeepCutAuto
namespace Go.Proofs.YtcodpnkfpmjleaaGreatDoor
open Go.RowKit
set_option maxHeartbeats 4000000
set_option maxRecDepth 100000

theorem again_any (b : Nat) (a : Option Addr) (cap : Nat) (code : List Int) (c : Cu) (s : ByteArray) (w : World) (hB : Bys code) (hat : c.at' ≤ 4611686018400000000) (hn : code.length ≤ 1048576) (ho : OffB a code.length b) (hs : s.size ≤ 500000) (hc : CurAt w b a code.length cap c) (hx : BytesAt w a code) :
    Calls Tryz.prog 33 #[.pointer (some ⟨b, 0, none⟩), .string s] w fun e w' =>
    ∃ (o : ByteArray) (c' : Cu), e = .returned (.string o) ∧ o.size ≤ 2 * s.size ∧ c'.at' ≤ c.at' + 2 ∧ CurAt w' b a code.length cap c' ∧ Mid b (b + 1) w w' := by
  have HB := hide hB
  have HX := hide hx
  have HO := hide ho
  have HC0 := hide hc
  clear hB hx ho hc
  go_enter Tryz.func33, Tryz.ntmps33
  go_wp2_with fail
  refine (pick_any b a cap code c 12 _ HB.out (by omega) hn HO.out (by omega) (by omega) HC0.out HX.out).mono ?_
  rintro e w1 ⟨rfl, hc1, hm1⟩
  have hpa := pickC_at code 12 c
  obtain ⟨p0, p1⟩ := pickV_bd (code := code) (n := 12) (by omega) c
  have HC1 := hide hc1
  have HM1 := hide hm1
  clear hc1 hm1 HC0
  generalize pickV code 12 c = q at *
  generalize pickC code 12 c = c1 at *
  go_wp2_with fail
  go_loopw [5, 6, 7] (fun q5 q6 q7 wr => ∃ (f k : Nat) (l : Int), q7 = .int .i64 k ∧ q5 = .int .i64 f ∧ q6 = .int .i64 l ∧ (f ≤ k ∧ k ≤ s.size ∧ 0 ≤ l ∧ l ≤ 12) ∧ Hid (CurAt wr b a code.length cap c1) ∧ Hid (Mid b (b + 1) w wr)) (fun _ _ q7 _ => s.size - (intOf q7).toNat)
  case atStart => exact ⟨0, 0, q, rfl, rfl, rfl, by omega, HC1, HM1⟩
  case round =>
    obtain ⟨f, k, l, rfl, rfl, rfl, ⟨hfk, hks, hl0, hl1⟩, HC, HM⟩ := hrel
    by_cases hlt : k < s.size
    · have hki : (k : Int) < (s.size : Int) := by omega
      by_cases c10 : s[k].toNat = 10
      · have g10 : ((s[k].toNat : Int) == 10) = true := by rw [beq_iff_eq]; omega
        clear c10
        by_cases hl : l = 0
        · subst hl
          have e1 : (k : Int) + 1 ≤ (s.size : Int) := by omega
          have e2 : (f : Int) ≤ (k : Int) + 1 := by omega
          have hwi : IntKind.i64.wrap ((k : Int) + 1) = (k : Int) + 1 := by rw [IntKind.wrap_i64]; omega
          go_upto_region 8 with fail
          go_quiet (fail)
          go_wp2_with fail
          go_ret
          have hbq : Below wr.heap.size wr (wr.drewN nq) := below_drewN (Below.refl _ _) _
          exact ⟨_, c1, rfl, by simp only [ByteArray.size_append, ByteArray.size_extract]; omega, hpa, HC.out.later hbq, HM.out.trans (Mid.of_below hbq)⟩
        · have gl : (l == 0) = false := by rw [beq_eq_false_iff_ne]; exact hl
          go_wp2_with fail
          go_roundw
          case rel => exact ⟨k + 1, k + 1, l - 1, by go_num, by go_num, by go_num, by omega, HC, HM⟩
          case measure => simp [intOf]; omega
      · have g10 : ((s[k].toNat : Int) == 10) = false := by rw [beq_eq_false_iff_ne]; omega
        clear c10
        go_wp2_with fail
        go_roundw
        case rel => exact ⟨f, k + 1, l, by go_num, rfl, rfl, by omega, HC, HM⟩
        case measure => simp [intOf]; omega
    · obtain rfl : k = s.size := by omega
      go_wp2_with fail
      go_ret
      exact ⟨s, c1, rfl, by omega, hpa, HC.out, HM.out⟩
end Go.Proofs.YtcodpnkfpmjleaaGreatDoor

/- The text that is drawn: how great it is. Own work. -/
namespace Go.Proofs.YtcodpnkfpmjleaaGreatDoor
open Go.RowKit
set_option maxHeartbeats 8000000
set_option maxRecDepth 100000

theorem wRes_size (N : Nt) : (wRes N).size ≤ 34000 := by
  unfold wRes
  split
  · rename_i h
    have R := rightN h
    have h1 := wJts_size R N.jts.length (Nat.le_refl _) (wPcs N.pcs ⟨#[]⟩)
    have h2 := wPcs_size' R N.pcs.length (Nat.le_refl _)
    rw [List.take_length] at h1 h2
    have h3 := R.lp
    have h4 := R.lj
    unfold wText
    omega
  · decide
/-- What may be put into a text. -/
abbrev putCells : Array Value := #[.string ⟨#[]⟩, .string ⟨#[32]⟩, .string ⟨#[10]⟩, .string ⟨#[35]⟩, .string ⟨#[48]⟩, .string ⟨#[97, 48, 46, 48]⟩, .string ⟨#[101, 110, 100, 32, 97, 48, 46, 49, 10]⟩, .string ⟨#[106, 111, 105, 110, 32]⟩, .string ⟨#[115, 119, 105, 116, 99, 104, 32, 119, 32]⟩, .string ⟨#[46]⟩, .string ⟨#[57]⟩, .string ⟨#[112, 105, 101, 99, 101, 32, 122, 32, 53, 32, 115, 112, 101, 101, 100, 32, 53, 32, 98, 114, 97, 107, 101, 32, 53, 10]⟩, .string ⟨#[65]⟩, .string ⟨#[49, 48, 48, 48, 48, 48, 48, 48, 48]⟩, .string ⟨#[48, 48, 48, 48, 48, 48, 48, 48, 57]⟩, .string ⟨#[32, 122, 46, 48]⟩]
theorem putCells_get (p : Nat) (hp : p < 16) : ∃ x : ByteArray, x.size ≤ 26 ∧ putCells[p]? = some (.string x) := by
  have h : p = 0 ∨ p = 1 ∨ p = 2 ∨ p = 3 ∨ p = 4 ∨ p = 5 ∨ p = 6 ∨ p = 7 ∨ p = 8 ∨ p = 9 ∨ p = 10 ∨ p = 11 ∨ p = 12 ∨ p = 13 ∨ p = 14 ∨ p = 15 := by omega
  rcases h with rfl | rfl | rfl | rfl | rfl | rfl | rfl | rfl | rfl | rfl | rfl | rfl | rfl | rfl | rfl | rfl
  all_goals exact ⟨_, by decide, rfl⟩
/-- The reader and what has been left alone. -/
structure RB (w wr : World) (a : Option Addr) (n cap : Nat) (c : Cu) : Prop where
  cur : CurAt wr w.heap.size a n cap c
  bel : Below w.heap.size w wr
section
variable {w wr w2 : World} {a : Option Addr} {n cap : Nat} {c c' : Cu}
theorem RB.later (h : RB w wr a n cap c) (hb : Below wr.heap.size wr w2) : RB w w2 a n cap c := ⟨h.cur.later hb, h.bel.trans (hb.mono h.bel.size)⟩
theorem RB.call (h : RB w wr a n cap c) (hc : CurAt w2 w.heap.size a n cap c') (hm : Mid w.heap.size (w.heap.size + 1) wr w2) : RB w w2 a n cap c' := ⟨hc, h.bel.trans (hm.below h.bel.size)⟩
end
/-- A pick, what it gives left open. -/
theorem rb_pick {w wr : World} {cap : Nat} {a : Option Addr} {code : List Int} {c : Cu} (m : Nat) (hB : Bys code) (hat : c.at' ≤ 10000000) (hn : code.length ≤ 1048576) (ho : OffB a code.length w.heap.size) (hx : BytesAt w a code) (hm0 : 0 < m) (hm : m ≤ 1048576) (hS : RB w wr a code.length cap c) :
    Calls Tryz.prog 31 #[.pointer (some ⟨w.heap.size, 0, none⟩), .int .i64 m] wr fun e w' =>
    ∃ (k : Nat) (c' : Cu), k < m ∧ e = .returned (.int .i64 k) ∧ c'.at' ≤ c.at' + 2 ∧ RB w w' a code.length cap c' ∧ Mid w.heap.size (w.heap.size + 1) wr w' := by
  refine (pick_any w.heap.size a cap code c m wr hB (by omega) hn ho (by omega) (by omega) hS.cur (hx.later hS.bel)).mono ?_
  rintro e w' ⟨rfl, hc, hm'⟩
  have hp := pickV_bd (code := code) (n := (m : Int)) (by omega) c
  obtain ⟨k, hk⟩ := Int.eq_ofNat_of_zero_le hp.1
  exact ⟨k, pickC code m c, by omega, by rw [hk], pickC_at code m c, hS.call hc hm', hm'⟩
theorem rb_pickI {w wr : World} {cap : Nat} {a : Option Addr} {code : List Int} {c : Cu} (m : Nat) (mi : Int) (hmi : mi = (m : Int)) (hB : Bys code) (hat : c.at' ≤ 10000000) (hn : code.length ≤ 1048576) (ho : OffB a code.length w.heap.size) (hx : BytesAt w a code) (hm0 : 0 < m) (hm : m ≤ 1048576) (hS : RB w wr a code.length cap c) :
    Calls Tryz.prog 31 #[.pointer (some ⟨w.heap.size, 0, none⟩), .int .i64 mi] wr fun e w' =>
    ∃ (k : Nat) (c' : Cu), k < m ∧ e = .returned (.int .i64 k) ∧ c'.at' ≤ c.at' + 2 ∧ RB w w' a code.length cap c' ∧ Mid w.heap.size (w.heap.size + 1) wr w' := by
  subst hmi
  exact rb_pick m hB hat hn ho hx hm0 hm hS
theorem rb_wideI {w wr : World} {cap : Nat} {a : Option Addr} {code : List Int} {c : Cu} (m : Nat) (mi : Int) (hmi : mi = (m : Int)) (hB : Bys code) (hat : c.at' ≤ 10000000) (hn : code.length ≤ 1048576) (ho : OffB a code.length w.heap.size) (hx : BytesAt w a code) (hm0 : 0 < m) (hm : m ≤ 1048576) (hS : RB w wr a code.length cap c) :
    Calls Tryz.prog 32 #[.pointer (some ⟨w.heap.size, 0, none⟩), .int .i64 mi] wr fun e w' =>
    ∃ (k : Nat) (c' : Cu), k < m ∧ e = .returned (.int .i64 k) ∧ c'.at' ≤ c.at' + 2 ∧ RB w w' a code.length cap c' ∧ Mid w.heap.size (w.heap.size + 1) wr w' := by
  subst hmi
  refine (wide_any w.heap.size a cap code c m wr hB (by omega) hn ho (by omega) (by omega) hS.cur (hx.later hS.bel)).mono ?_
  rintro e w' ⟨rfl, hc, hm'⟩
  have hp := wideV_bd (code := code) (n := (m : Int)) (by omega) c
  obtain ⟨k, hk⟩ := Int.eq_ofNat_of_zero_le hp.1
  exact ⟨k, wideC code c, by omega, by rw [hk], Nat.le_of_eq (wideC_at code c), hS.call hc hm', hm'⟩

theorem drawReadNet_any (a : Option Addr) (cap : Nat) (code : List Int) (w : World) (hB : Bys code) (hn : code.length ≤ 1048576) (hx : BytesAt w a code) :
    Calls Tryz.prog 11 #[.slice a code.length cap] w fun e w' => ∃ t : ByteArray, e = .returned (.string t) ∧ t.size ≤ 1048576 ∧ Below w.heap.size w w' := by
  have HB := hide hB
  have HX := hide hx
  have HO := hide (off_of hx (B := w.heap.size) (Nat.le_refl _))
  have hA : Below w.heap.size w (w.alloc (.cells #[.slice a code.length cap, .int .i64 0, .int .u64 0] 57)) := (Below.refl _ _).alloc (Nat.le_refl _) _
  have HR0 := hide (show RB w (w.alloc (.cells #[.slice a code.length cap, .int .i64 0, .int .u64 0] 57)) a code.length cap ⟨0, 0⟩ from ⟨cur_new, hA⟩)
  clear hB hx hA
  go_enter Tryz.func11, Tryz.ntmps11
  go_wp2_with fail
  generalize w.alloc (.cells #[.slice a code.length cap, .int .i64 0, .int .u64 0] 57) = w0 at *
  refine (l5net_any w.heap.size a cap code ⟨0, 0⟩ _ HB.out (Nat.zero_le _) hn HO.out HR0.out.cur (HX.out.later HR0.out.bel)).mono ?_
  rintro e w1 ⟨pa, ja, pcap, jcap, N, c1, rfl, hNB, hSm, hm1, hat1, hc1⟩
  have HR1 := hide (HR0.out.call hc1 hm1)
  have HNB := hide hNB
  have HSM := hide hSm
  have hsz := wRes_size N
  clear hNB hSm hm1 hc1 HR0
  go_wp2_with fail
  refine (specWriteNet_res pa ja N pcap jcap _ (by have := HSM.out.pcs; omega) (fun p hp => Nat.le_trans (HSM.out.pn p hp) (by decide)) (by have := HSM.out.jts; omega) (fun j hj => ⟨Nat.le_trans (HSM.out.jn j hj).1 (by decide), Nat.le_trans (HSM.out.jn j hj).2 (by decide)⟩) HNB.out.pcs HNB.out.jts).mono ?_
  rintro e w2 ⟨rfl, hb2⟩
  have HR2 := hide (HR1.out.later hb2)
  generalize wRes N = s0 at *
  clear hb2 HR1 HNB HSM
  go_wp2_with fail
  refine (rb_pick 3 HB.out (by omega) hn HO.out HX.out (by omega) (by omega) HR2.out).mono ?_
  rintro e w3 ⟨q, c3, hq, rfl, hat3, hR3, _⟩
  have HR3 := hide hR3
  clear hR3 HR2
  go_upto_if 16 with fail
  go_cut [4] from 8 (fun s4 wx => ∃ (s : ByteArray) (c : Cu), s4 = .string s ∧ s.size ≤ 442013 ∧ c.at' ≤ 3000000 ∧ Hid (RB w wx a code.length cap c))
  case first =>
    by_cases h0 : q = 0
    · subst h0
      go_wp2_with fail
      refine (loose_any w.heap.size a cap code c3 s0 _ HB.out (by omega) hn HO.out (by omega) HR3.out.cur (HX.out.later HR3.out.bel)).mono ?_
      rintro e w4 ⟨o, c4, rfl, hL, hat4, hc4, hm4⟩
      have hos := hL.done.2
      rw [bs_len, bs_len] at hos
      have HR4 := hide (HR3.out.call hc4 hm4)
      clear hL hc4 hm4
      go_wp2_with fail
      go_meet
      case rel => exact ⟨o, c4, rfl, by omega, by omega, HR4⟩
    · have g0 : ((q : Int) == 0) = false := by rw [beq_eq_false_iff_ne]; omega
      clear h0
      go_wp2_with fail
      go_meet
      case rel => exact ⟨s0, c3, rfl, by omega, by omega, HR3⟩
  case rest =>
    clear HR3 hat3 hat1 hq hsz
    obtain ⟨s1, c5, rfl, hs1, hat5, HR5⟩ := hcut
    rename World => w5
    go_wp2_with fail
    refine (rb_pick 3 HB.out (by omega) hn HO.out HX.out (by omega) (by omega) HR5.out).mono ?_
    rintro e w6 ⟨q, c6, hq, rfl, hat6, hR6, _⟩
    have HR6 := hide hR6
    clear hR6 HR5
    go_wp2_with fail
    go_loopw [4, 5, 6, 7] (fun q4 q5 _ _ wr => ∃ (k : Nat) (s : ByteArray) (c : Cu), q5 = .int .i64 k ∧ q4 = .string s ∧ (k ≤ 2 ∧ s.size + 26 * k ≤ 442065 ∧ c.at' + 20 * k ≤ 3000100) ∧ Hid (RB w wr a code.length cap c)) (fun _ q5 _ _ _ => (intOf q5).toNat)
    case atStart => exact ⟨q, s1, c6, rfl, rfl, by omega, HR6⟩
    case round =>
      clear HR6 hat6 hat5 hq hs1
      obtain ⟨k, s, c7, rfl, rfl, ⟨hk, hs, hat7⟩, HR⟩ := hrel
      rename World => w7
      by_cases hk0 : k = 0
      · subst hk0
        go_wp2_with fail
        refine (rb_pick 5 HB.out (by omega) hn HO.out HX.out (by omega) (by omega) HR.out).mono ?_
        rintro e w8 ⟨q, c8, hq, rfl, hat8, hR8, _⟩
        have HR8 := hide hR8
        clear hR8 HR
        go_upto_if 64 with fail
        go_cut [4] from 8 (fun s4 wx => ∃ (s : ByteArray) (c : Cu), s4 = .string s ∧ s.size ≤ 900000 ∧ c.at' ≤ 3001000 ∧ Hid (RB w wx a code.length cap c))
        case first =>
          by_cases h0 : q = 0
          · subst h0
            go_wp2_with fail
            refine (again_any w.heap.size a cap code c8 s _ HB.out (by omega) hn HO.out (by omega) HR8.out.cur (HX.out.later HR8.out.bel)).mono ?_
            rintro e w9 ⟨o, c9, rfl, hos, hat9, hc9, hm9⟩
            have HR9 := hide (HR8.out.call hc9 hm9)
            clear hc9 hm9
            go_wp2_with fail
            go_meet
            case rel => exact ⟨o, c9, rfl, by omega, by omega, HR9⟩
          · have g0 : ((q : Int) == 0) = false := by rw [beq_eq_false_iff_ne]; omega
            clear h0
            go_wp2_with fail
            go_meet
            case rel => exact ⟨s, c8, rfl, by omega, by omega, HR8⟩
        case rest =>
          clear HR8 hat8 hat7 hq hs hk
          obtain ⟨s2, c9, rfl, hs2, hat9, HR9⟩ := hcut
          rename World => w9
          go_wp2_with fail
          refine (rb_pick 40 HB.out (by omega) hn HO.out HX.out (by omega) (by omega) HR9.out).mono ?_
          rintro e w10 ⟨q, c10, hq, rfl, hat10, hR10, _⟩
          have HR10 := hide hR10
          clear hR10 HR9
          by_cases h0 : q = 0
          · subst h0
            go_wp2_with fail
            go_loopw [4] (fun q4 wr => ∃ (s : ByteArray) (c : Cu), q4 = .string s ∧ (s.size ≤ 900000 ∧ c.at' ≤ 3001002 + 2 * s.size) ∧ Hid (RB w wr a code.length cap c)) (fun q4 _ => match q4 with | .string s => 65537 - s.size | _ => 0)
            case atStart => exact ⟨s2, c10, rfl, by omega, HR10⟩
            case round =>
              clear HR10 hat10 hat9 hs2 hq
              obtain ⟨s3, c11, rfl, ⟨hs3, hat11⟩, HR⟩ := hrel
              rename World => w11
              go_wp2_with fail
              refine (rb_pick 3 HB.out (by omega) hn HO.out HX.out (by omega) (by omega) HR.out).mono ?_
              rintro e w12 ⟨q, c12, hq, rfl, hat12, hR12, _⟩
              have HR12 := hide hR12
              have hwq : IntKind.i64.wrap (65535 + (q : Int)) = 65535 + (q : Int) := by rw [IntKind.wrap_i64]; omega
              clear hR12 HR
              by_cases hlt : (s3.size : Int) < 65535 + (q : Int)
              · have h1 : (ByteArray.mk #[35]).size = 1 := rfl
                go_wp2_with fail
                go_roundw
                case rel => exact ⟨s3 ++ ⟨#[35]⟩, c12, rfl, by rw [ByteArray.size_append, h1]; omega, HR12⟩
                case measure =>
                  show 65537 - (s3 ++ ⟨#[35]⟩).size < 65537 - s3.size
                  rw [ByteArray.size_append, h1]
                  omega
              · go_wp2_with fail
                go_ret
                exact ⟨s3, rfl, by omega, HR12.out.bel⟩
          · have g0 : ((q : Int) == 0) = false := by rw [beq_eq_false_iff_ne]; omega
            clear h0
            go_wp2_with fail
            go_ret
            exact ⟨s2, rfl, by omega, HR10.out.bel⟩
      · have hki : (0 : Int) < (k : Int) := by omega
        have hkn : 0 < k := by omega
        have hwk : IntKind.i64.wrap ((k : Int) - 1) = ((k - 1 : Nat) : Int) := by rw [IntKind.wrap_i64]; omega
        have hws : IntKind.i64.wrap ((s.size : Int) + 1) = (s.size : Int) + 1 := by rw [IntKind.wrap_i64]; omega
        go_wp2_with fail
        refine (rb_pickI (s.size + 1) _ (by omega) HB.out (by omega) hn HO.out HX.out (by omega) (by omega) HR.out).mono ?_
        rintro e w8 ⟨i, c8, hi, rfl, hat8, hR8, _⟩
        have HR8 := hide hR8
        clear hR8 HR
        go_wp2_with fail
        refine (rb_pick 2 HB.out (by omega) hn HO.out HX.out (by omega) (by omega) HR8.out).mono ?_
        rintro e w9 ⟨q, c9, hq, rfl, hat9, hR9, _⟩
        have HR9 := hide hR9
        clear hR9 HR8
        go_upto_if 33 with fail
        go_cut [6] from 22 to 61 (fun s6 wx => ∃ (i : Nat) (c : Cu), s6 = .int .i64 i ∧ i ≤ s.size ∧ c.at' ≤ c7.at' + 8 ∧ Hid (RB w wx a code.length cap c))
        case first =>
          by_cases h0 : q = 0
          · subst h0
            go_wp2_with fail
            refine (rb_wideI (s.size + 1) _ (by omega) HB.out (by omega) hn HO.out HX.out (by omega) (by omega) HR9.out).mono ?_
            rintro e w10 ⟨i2, c10, hi2, rfl, hat10, hR10, _⟩
            have HR10 := hide hR10
            clear hR10
            go_wp2_with fail
            go_meet
            case rel => exact ⟨i2, c10, rfl, by omega, by omega, HR10⟩
          · have g0 : ((q : Int) == 0) = false := by rw [beq_eq_false_iff_ne]; omega
            clear h0
            go_wp2_with fail
            go_meet
            case rel => exact ⟨i, c9, rfl, by omega, by omega, HR9⟩
        case rest =>
          clear HR9 hat9 hat8 hq hi
          obtain ⟨i, c10, rfl, hi, hat10, HR10⟩ := hcut
          rename World => w10
          go_wp2_with fail
          refine (rb_pick 4 HB.out (by omega) hn HO.out HX.out (by omega) (by omega) HR10.out).mono ?_
          rintro e w11 ⟨q, c11, hq, rfl, hat11, hR11, _⟩
          have HR11 := hide hR11
          have hwj : IntKind.i64.wrap ((i : Int) + (q : Int)) = (i : Int) + (q : Int) := by rw [IntKind.wrap_i64]; omega
          clear hR11 HR10
          go_upto_if 46 with fail
          go_cut [7] from 22 to 61 (fun s7 wx => ∃ j : Nat, s7 = .int .i64 j ∧ (i ≤ j ∧ j ≤ s.size) ∧ Hid (RB w wx a code.length cap c11))
          case first =>
            by_cases hj : (s.size : Int) < (i : Int) + (q : Int)
            · go_wp2_with fail
              go_meet
              case rel => exact ⟨s.size, rfl, by omega, HR11⟩
            · go_wp2_with fail
              go_meet
              case rel => exact ⟨i + q, by go_num, by omega, HR11⟩
          case rest =>
            clear HR11 hwj
            obtain ⟨j, rfl, ⟨hij, hj⟩, HR11⟩ := hcut
            rename World => w12
            have hii : (i : Int) ≤ (s.size : Int) := by omega
            have hji : (j : Int) ≤ (s.size : Int) := by omega
            have hz12 : w.heap.size + 1 ≤ w12.heap.size := cell_lt HR11.out.cur.c0
            go_upto_region 14 with fail
            have HRd := hide (HR11.out.later ((Below.refl _ _).drew))
            have HRa := hide (HR11.out.later (((Below.refl w12.heap.size w12).alloc (Nat.le_refl _) (.cells putCells 9)).drew))
            have HTa := hide (fun (p : Nat) (hp : p < 16) => show ∃ x : ByteArray, x.size ≤ 26 ∧ (w12.alloc (.cells putCells 9)).drew.cell? ⟨w12.heap.size, p, none⟩ = some (.string x) by
              obtain ⟨x, h1, h2⟩ := putCells_get p hp
              exact ⟨x, h1, new_cell w12 putCells 9 p _ h2⟩)
            go_region_with (first
              | (go_at_call 31; with_reducible (refine (rb_pickI 16 16 rfl HB.out (by omega) hn HO.out HX.out (by omega) (by omega) HRa.out).mono ?_); (rintro e wQ ⟨p, cQ, hp, rfl, hatQ, hRQ, hmQ⟩; have HRQ := hide hRQ; obtain ⟨x, hx1, hx2⟩ := HTa.out p hp; have hx2 := hmQ.cell (.inr (by omega)) hx2; have hpi : (p : Int) < 16 := by omega))
              | (go_at_call 31; with_reducible (refine (rb_pickI 16 16 rfl HB.out (by omega) hn HO.out HX.out (by omega) (by omega) HRd.out).mono ?_); (rintro e wQ ⟨p, cQ, hp, rfl, hatQ, hRQ, hmQ⟩; have HRQ := hide (hRQ.later ((Below.refl wQ.heap.size wQ).alloc (Nat.le_refl _) (.cells putCells 9))); obtain ⟨x, hx1, hx2⟩ := putCells_get p hp; have hx2 := new_cell wQ putCells 9 p _ hx2; have hpi : (p : Int) < 16 := by omega)))
            all_goals
              go_simp
              go_wp2_with fail
              go_roundw
              case rel => exact ⟨k - 1, _, cQ, by go_num, rfl, by simp only [ByteArray.size_append, ByteArray.size_extract]; omega, HRQ⟩
              case measure => simp [intOf]; omega
end Go.Proofs.YtcodpnkfpmjleaaGreatDoor

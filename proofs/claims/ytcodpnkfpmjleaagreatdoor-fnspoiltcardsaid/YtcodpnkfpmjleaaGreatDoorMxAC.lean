/- Where an end stands in a right net. Own work. -/
import Derived.Test.YtcodpnkfpmjleaaGreatDoorMxAA
import Derived.Test.YtcodpnkfpmjleaaGreatDoorSpC
import Derived.Test.YtcodpnkfpmjleaaGreatDoorMxAB
import Derived.Deep.RegionWith
import Derived.Lib.SmallJoins
namespace Go.Proofs.YtcodpnkfpmjleaaGreatDoor

theorem right_facts {N : Nt} (h : netOk N = (0, 0)) : sizeBad N = false ∧ (∀ j, j < N.pcs.length → pcBad N.pcs j = false) ∧ (∀ j, j < N.jts.length → jtBad3 N.pcs.length N.jts j = false) ∧ (∀ j, j < N.jts.length → jtBad4 N.jts j = false) ∧ (∀ j, j < N.pcs.length → pcBad5 N.jts j = false) := by
  cases hs : sizeBad N
  case true => rw [netOk_1 hs] at h; simp at h
  rcases first_cases (pcBad N.pcs) N.pcs.length with ⟨_, h2⟩ | ⟨i, hi, _, hb, hlt⟩
  case inr => rw [netOk_2 hs hi hb hlt] at h; simp at h
  rcases first_cases (jtBad3 N.pcs.length N.jts) N.jts.length with ⟨_, h3⟩ | ⟨i, hi, _, hb, hlt⟩
  case inr => rw [netOk_3 hs h2 hi hb hlt] at h; simp at h
  rcases first_cases (jtBad4 N.jts) N.jts.length with ⟨_, h4⟩ | ⟨i, hi, _, hb, hlt⟩
  case inr => rw [netOk_4 hs h2 h3 hi hb hlt] at h; simp at h
  rcases first_cases (pcBad5 N.jts) N.pcs.length with ⟨_, h5⟩ | ⟨i, hi, _, hb, hlt⟩
  case inr => rw [netOk_5 hs h2 h3 h4 hi hb hlt] at h; simp at h
  exact ⟨rfl, h2, h3, h4, h5⟩

/-- A net's code is 0 just where it is right. -/
theorem netOk_code {N : Nt} : ((netOk N).1 == 0) = decide (netOk N = (0, 0)) := by
  cases hs : sizeBad N
  case true => rw [netOk_1 hs]; rfl
  rcases first_cases (pcBad N.pcs) N.pcs.length with ⟨_, h2⟩ | ⟨i, hi, _, hb, hlt⟩
  case inr => rw [netOk_2 hs hi hb hlt]; simp
  rcases first_cases (jtBad3 N.pcs.length N.jts) N.jts.length with ⟨_, h3⟩ | ⟨i, hi, _, hb, hlt⟩
  case inr => rw [netOk_3 hs h2 hi hb hlt]; simp
  rcases first_cases (jtBad4 N.jts) N.jts.length with ⟨_, h4⟩ | ⟨i, hi, _, hb, hlt⟩
  case inr => rw [netOk_4 hs h2 h3 hi hb hlt]; simp
  rcases first_cases (pcBad5 N.jts) N.pcs.length with ⟨_, h5⟩ | ⟨i, hi, _, hb, hlt⟩
  case inr => rw [netOk_5 hs h2 h3 h4 hi hb hlt]; simp
  rw [netOk_0 hs h2 h3 h4 h5]; rfl

/-- The end e stands in joint j at place i. -/
def At (js : List Jt) (e : Int × Int) (j i : Nat) : Prop := ∃ (hj : j < js.length) (hi : i < js[j].ends.length), js[j].ends[i] = e

theorem count_pos_of {es : List (Int × Int)} {e : Int × Int} {i k : Nat} (hi : i < es.length) (hk : i < k) (h : es[i] = e) : 1 ≤ (es.take k).count e := by
  have : e ∈ es.take k := by
    rw [List.mem_take_iff_getElem]; exact ⟨i, by omega, h⟩
  exact List.count_pos_iff.2 this

theorem count_take_le {es : List (Int × Int)} {e : Int × Int} {k m : Nat} (h : k ≤ m) : (es.take k).count e ≤ (es.take m).count e := by
  have : (es.take k).Sublist (es.take m) := by
    rw [show es.take k = (es.take m).take k by rw [List.take_take, Nat.min_eq_left h]]
    exact List.take_sublist _ _
  exact this.count_le _

theorem count_two {es : List (Int × Int)} {e : Int × Int} {i k : Nat} (hi : i < k) (hk : k < es.length) (h1 : es[i] = e) (h2 : es[k] = e) : 2 ≤ es.count e := by
  have a1 := count_pos_of (es := es) (e := e) (i := i) (k := k) (by omega) hi h1
  have a2 : (es.take (k + 1)).count e = (es.take k).count e + 1 := by
    rw [List.take_succ_eq_append_getElem hk, List.count_append, h2]; simp
  have a3 := count_take_le (es := es) (e := e) (k := k + 1) (m := es.length) (by omega)
  rw [List.take_length] at a3
  omega

theorem uses_take_le {js : List Jt} {e : Int × Int} {k m : Nat} (h : k ≤ m) : uses (js.take k) e ≤ uses (js.take m) e := by
  unfold uses allEnds
  rw [show js.take k = (js.take m).take k by rw [List.take_take, Nat.min_eq_left h]]
  have : (((js.take m).take k).flatMap (·.ends)).Sublist ((js.take m).flatMap (·.ends)) := by
    conv => rhs; rw [← List.take_append_drop k (js.take m)]
    rw [List.flatMap_append]
    exact List.sublist_append_left _ _
  exact this.count_le _

theorem uses_succ' (js : List Jt) (k : Nat) (hk : k < js.length) (e : Int × Int) : uses (js.take (k + 1)) e = uses (js.take k) e + js[k].ends.count e := by
  unfold uses allEnds
  rw [List.take_succ_eq_append_getElem hk, List.flatMap_append, List.count_append, List.flatMap_singleton]

theorem At.uses_pos {js : List Jt} {e : Int × Int} {j i : Nat} (h : At js e j i) : 1 ≤ uses (js.take (j + 1)) e := by
  obtain ⟨hj, hi, he⟩ := h
  rw [uses_succ' js j hj]
  have := count_pos_of (es := js[j].ends) (e := e) (k := js[j].ends.length) hi hi he
  rw [List.take_length] at this
  omega

theorem At.unique {js : List Jt} {e : Int × Int} {j i j' i' : Nat} (h : At js e j i) (h' : At js e j' i') (hu : uses js e = 1) : j = j' ∧ i = i' := by
  have key : ∀ {j i j' i' : Nat}, At js e j i → At js e j' i' → ¬ j < j' := by
    intro j i j' i' h h' hlt
    have a1 := h.uses_pos
    have a2 := uses_take_le (js := js) (e := e) (k := j + 1) (m := j') (by omega)
    obtain ⟨hj, hi, he⟩ := h'
    have a3 := uses_succ' js j' hj e
    have a4 := count_pos_of (es := js[j'].ends) (e := e) (k := js[j'].ends.length) hi hi he
    rw [List.take_length] at a4
    have a5 := uses_take_le (js := js) (e := e) (k := j' + 1) (m := js.length) (by omega)
    rw [List.take_length] at a5
    omega
  have hjj : j = j' := by
    have := key h h'
    have := key h' h
    omega
  subst hjj
  refine ⟨rfl, ?_⟩
  obtain ⟨hj, hi, he⟩ := h
  obtain ⟨_, hi', he'⟩ := h'
  have b1 := uses_succ' js j hj e
  have b2 := uses_take_le (js := js) (e := e) (k := j + 1) (m := js.length) (by omega)
  rw [List.take_length] at b2
  rcases Nat.lt_trichotomy i i' with hl | hl | hl
  · have := count_two hl hi' he he'; omega
  · exact hl
  · have := count_two hl hi he' he; omega

theorem at_of_uses {js : List Jt} {e : Int × Int} (h : 1 ≤ uses js e) : ∃ j i, At js e j i := by
  have hm : e ∈ allEnds js := List.count_pos_iff.1 h
  unfold allEnds at hm
  rw [List.mem_flatMap] at hm
  obtain ⟨x, hx, he⟩ := hm
  obtain ⟨j, hj, rfl⟩ := List.getElem_of_mem hx
  obtain ⟨i, hi, hei⟩ := List.getElem_of_mem he
  exact ⟨j, i, hj, hi, hei⟩

theorem endOk_of_at {n : Nat} {js : List Jt} (h3 : ∀ k, k < js.length → jtBad3 n js k = false) {e : Int × Int} {j i : Nat} (h : At js e j i) : endOk n e = true := by
  obtain ⟨hj, hi, rfl⟩ := h
  have h := h3 j hj
  rw [jtBad3_eq hj] at h
  simp only [Bool.or_eq_false_iff] at h
  have h2 := List.any_eq_false.1 h.2 js[j].ends[i] (List.getElem_mem hi)
  simpa using h2

theorem uses_right {N : Nt} (h : netOk N = (0, 0)) {e : Int × Int} (he : endOk N.pcs.length e = true) : uses N.jts e = 1 := by
  obtain ⟨_, _, _, _, h5⟩ := right_facts h
  simp [endOk, inR] at he
  obtain ⟨x, y⟩ := e
  obtain ⟨⟨hx0, hx1⟩, hy0, hy1⟩ := he
  simp only at hx0 hx1 hy0 hy1
  obtain ⟨k, rfl⟩ := Int.eq_ofNat_of_zero_le hx0
  have h := h5 k (by omega)
  simp [pcBad5] at h
  have hy : y = 0 ∨ y = 1 := by omega
  rcases hy with rfl | rfl
  · exact h.1
  · exact h.2
end Go.Proofs.YtcodpnkfpmjleaaGreatDoor

namespace Go.Proofs.YtcodpnkfpmjleaaGreatDoor
open Go.RowKit
set_option maxHeartbeats 1000000

theorem l1ok_any (a a' : Option Addr) (N : Nt) (cap cap' : Nat) (w : World) (hn : N.pcs.length ≤ 1048576) (hs : ∀ p ∈ N.pcs, p.name.size ≤ 1048576) (hl : N.jts.length ≤ 1048576) (hm : ∀ j ∈ N.jts, j.name.size ≤ 1048576 ∧ j.ends.length ≤ 1048576) (hp : PcsAt w a N.pcs) (hj : JtsAt w a' N.jts) :
    Calls Tryz.prog 25 #[.agg #[.slice a N.pcs.length cap, .slice a' N.jts.length cap']] w fun e w' =>
    e = .returned (.bool (decide (netOk N = (0, 0)))) ∧ Below w.heap.size w w' := by
  have HP := hide hp
  have HJ := hide hj
  have HM := hide hm
  have HS := hide hs
  clear hp hj hm hs
  go_enter Tryz.func25, Tryz.ntmps25
  go_wp2_with fail
  have hbW : Below w.heap.size w (w.alloc (.cells #[.slice a N.pcs.length cap, .slice a' N.jts.length cap'] 26)) := (Below.refl _ _).alloc (Nat.le_refl _) _
  refine (specNetOk_any a a' N cap cap' _ hn HS.out hl HM.out (HP.out.later hbW) (HJ.out.later hbW)).mono ?_
  rintro e w1 ⟨rfl, hb1⟩
  have hb2 := hbW.trans (hb1.mono hbW.size)
  go_wp2_with fail
  go_ret
  exact ⟨ret_b netOk_code, hb2.alloc hb2.size _⟩
end Go.Proofs.YtcodpnkfpmjleaaGreatDoor

namespace Go.Proofs.YtcodpnkfpmjleaaGreatDoor
open Go.RowKit
set_option maxHeartbeats 2000000

/-- A piece's line. -/
def lineP (p : Pc) : ByteArray := ((((((⟨#[112, 105, 101, 99, 101, 32]⟩ ++ p.name) ++ ⟨#[32]⟩) ++ dtext p.len) ++ ⟨#[32, 115, 112, 101, 101, 100, 32]⟩) ++ dtext p.speed) ++ ⟨#[32, 98, 114, 97, 107, 101, 32]⟩) ++ dtext p.brake ++ ⟨#[10]⟩
def wPcs (ps : List Pc) (o : ByteArray) : ByteArray := ps.foldl (fun o p => o ++ lineP p) o

theorem wPcs_succ (ps : List Pc) (k : Nat) (hk : k < ps.length) (o : ByteArray) : wPcs (ps.take (k + 1)) o = wPcs (ps.take k) o ++ lineP ps[k] := by
  unfold wPcs
  rw [List.take_succ_eq_append_getElem hk, List.foldl_append]
  rfl

theorem pc_ok_bounds {p : Pc} (h : p.ok = true) : p.name.size ≤ 20 ∧ (1 ≤ p.len ∧ p.len ≤ 10000000) ∧ (1 ≤ p.speed ∧ p.speed ≤ 10000) ∧ (1 ≤ p.brake ∧ p.brake ≤ 1000) := by
  simp [Pc.ok, nm, inR] at h
  omega

theorem lineP_size {p : Pc} (h : p.ok = true) : (lineP p).size ≤ 100 := by
  have hb := pc_ok_bounds h
  have h1 := dtext_size p.len (by omega)
  have h2 := dtext_size p.speed (by omega)
  have h3 := dtext_size p.brake (by omega)
  unfold lineP
  simp only [ByteArray.size_append]
  have e1 : (ByteArray.mk #[112, 105, 101, 99, 101, 32]).size = 6 := rfl
  have e2 : (ByteArray.mk #[32]).size = 1 := rfl
  have e3 : (ByteArray.mk #[32, 115, 112, 101, 101, 100, 32]).size = 7 := rfl
  have e4 : (ByteArray.mk #[32, 98, 114, 97, 107, 101, 32]).size = 7 := rfl
  have e5 : (ByteArray.mk #[10]).size = 1 := rfl
  omega

theorem wPcs_size {ps : List Pc} (h : ∀ p ∈ ps, p.ok = true) (o : ByteArray) : (wPcs ps o).size ≤ o.size + ps.length * 100 := by
  induction ps generalizing o with
  | nil => simp [wPcs]
  | cons p ps ih =>
    have h1 := lineP_size (h p (List.mem_cons_self ..))
    have h2 := ih (fun q hq => h q (List.mem_cons_of_mem _ hq)) (o ++ lineP p)
    have e : wPcs (p :: ps) o = wPcs ps (o ++ lineP p) := rfl
    rw [e, List.length_cons]
    rw [ByteArray.size_append] at h2
    omega
end Go.Proofs.YtcodpnkfpmjleaaGreatDoor

/- The text of a right net, as a plain function. Own work. -/
namespace Go.Proofs.YtcodpnkfpmjleaaGreatDoor
open Go.RowKit

def pnm (ps : List Pc) (i : Int) : ByteArray := match ps[i.toNat]? with | some p => p.name | none => ⟨#[]⟩
theorem pnm_eq {ps : List Pc} {i : Nat} (h : i < ps.length) : pnm ps (i : Int) = ps[i].name := by simp [pnm, h]

def kw (k : Int) : ByteArray := if k = 1 then ⟨#[101, 110, 100]⟩ else if k = 2 then ⟨#[106, 111, 105, 110]⟩ else if k = 3 then ⟨#[115, 119, 105, 116, 99, 104]⟩ else ⟨#[99, 114, 111, 115, 115]⟩
theorem kw_size (k : Int) : (kw k).size ≤ 6 := by
  unfold kw
  repeat' split
  all_goals decide

def endT (ps : List Pc) (e : Int × Int) : ByteArray := ((⟨#[32]⟩ ++ pnm ps e.1) ++ ⟨#[46]⟩) ++ dtext e.2
def jEnds (ps : List Pc) (es : List (Int × Int)) (o : ByteArray) : ByteArray := es.foldl (fun o e => o ++ endT ps e) o
def jHead (j : Jt) (o : ByteArray) : ByteArray := if j.name.size = 0 then o ++ kw j.kind else o ++ kw j.kind ++ (⟨#[32]⟩ ++ j.name)
def jLine (ps : List Pc) (o : ByteArray) (j : Jt) : ByteArray := jEnds ps j.ends (jHead j o) ++ ⟨#[10]⟩
def wJts (ps : List Pc) (js : List Jt) (o : ByteArray) : ByteArray := js.foldl (jLine ps) o
def wText (N : Nt) : ByteArray := wJts N.pcs N.jts (wPcs N.pcs ⟨#[]⟩)

theorem jEnds_succ (ps : List Pc) (es : List (Int × Int)) (k : Nat) (hk : k < es.length) (o : ByteArray) : jEnds ps (es.take (k + 1)) o = jEnds ps (es.take k) o ++ endT ps es[k] := by
  unfold jEnds
  rw [List.take_succ_eq_append_getElem hk, List.foldl_append]
  rfl
theorem wJts_succ (ps : List Pc) (js : List Jt) (k : Nat) (hk : k < js.length) (o : ByteArray) : wJts ps (js.take (k + 1)) o = jLine ps (wJts ps (js.take k) o) js[k] := by
  unfold wJts
  rw [List.take_succ_eq_append_getElem hk, List.foldl_append]
  rfl

/-- What the writers need of a right net. -/
structure RightN (N : Nt) : Prop where
  lp : N.pcs.length ≤ 100
  lj : N.jts.length ≤ 120
  pc : ∀ k (h : k < N.pcs.length), N.pcs[k].ok = true
  kind : ∀ k (h : k < N.jts.length), N.jts[k].kind = 1 ∨ N.jts[k].kind = 2 ∨ N.jts[k].kind = 3 ∨ N.jts[k].kind = 4
  elen : ∀ k (h : k < N.jts.length), N.jts[k].ends.length ≤ 4
  ends : ∀ k (h : k < N.jts.length) i (hi : i < N.jts[k].ends.length), ∃ p : Nat, N.jts[k].ends[i].1 = p ∧ p < N.pcs.length ∧ 0 ≤ N.jts[k].ends[i].2 ∧ N.jts[k].ends[i].2 ≤ 1
  nsize : ∀ k (h : k < N.jts.length), N.jts[k].name.size ≤ 20
  named : ∀ k (h : k < N.jts.length), (3 ≤ N.jts[k].kind ↔ N.jts[k].name.size ≠ 0)

theorem nm_size {s : ByteArray} (h : nm s = true) : 1 ≤ s.size ∧ s.size ≤ 20 := by
  simp [nm] at h; omega

theorem rightN {N : Nt} (h : netOk N = (0, 0)) : RightN N := by
  obtain ⟨h1, h2, h3, h4, _⟩ := right_facts h
  simp only [sizeBad, Bool.or_eq_false_iff, decide_eq_false_iff_not] at h1
  refine ⟨by omega, by omega, ?_, ?_, ?_, ?_, ?_, ?_⟩
  · intro k hk
    have := h2 k hk
    rw [pcBad_eq hk] at this
    simp only [Bool.or_eq_false_iff, Bool.not_eq_false'] at this
    exact this.1
  · intro k hk
    have := h3 k hk
    rw [jtBad3_eq hk] at this
    simp only [Bool.or_eq_false_iff, Bool.not_eq_false', inR, Bool.and_eq_true, decide_eq_true_eq] at this
    omega
  · intro k hk
    have := h3 k hk
    rw [jtBad3_eq hk] at this
    simp only [Bool.or_eq_false_iff, Bool.not_eq_false', inR, Bool.and_eq_true, decide_eq_true_eq, bne_eq_false_iff_eq] at this
    omega
  · intro k hk i hi
    have := h3 k hk
    rw [jtBad3_eq hk] at this
    simp only [Bool.or_eq_false_iff, List.any_eq_false] at this
    have h5 := this.2 _ (List.getElem_mem hi)
    simp only [endOk, inR, Bool.not_eq_true', Bool.and_eq_false_iff, decide_eq_false_iff_not, not_or, Decidable.not_not] at h5
    exact ⟨N.jts[k].ends[i].1.toNat, by omega, by omega, by omega, by omega⟩
  · intro k hk
    have := h4 k hk
    rw [jtBad4_eq hk] at this
    split at this
    · simp only [Bool.not_eq_false', List.isEmpty_iff] at this
      have e : N.jts[k].name.toList.length = N.jts[k].name.size := by rw [Lib.toList_data]; rfl
      rw [this] at e
      simp at e
      omega
    · simp only [Bool.or_eq_false_iff, Bool.not_eq_false'] at this
      exact (nm_size this.1).2
  · intro k hk
    have := h4 k hk
    rw [jtBad4_eq hk] at this
    split at this
    · simp only [Bool.not_eq_false', List.isEmpty_iff] at this
      have e : N.jts[k].name.toList.length = N.jts[k].name.size := by rw [Lib.toList_data]; rfl
      rw [this] at e
      simp at e
      omega
    · simp only [Bool.or_eq_false_iff, Bool.not_eq_false'] at this
      have := nm_size this.1
      omega

theorem isEmpty_size (s : ByteArray) : s.toList.isEmpty = decide (s.size = 0) := by
  rw [Lib.toList_data, Bool.eq_iff_iff, List.isEmpty_iff, decide_eq_true_eq]
  constructor
  · intro h
    simp [ByteArray.size, ← Array.length_toList, h]
  · intro h
    have : s.data.toList.length = 0 := by rw [Array.length_toList]; exact h
    exact List.eq_nil_of_length_eq_zero this

theorem endT_size {ps : List Pc} (hps : ∀ k (h : k < ps.length), ps[k].ok = true) {e : Int × Int} {p : Nat} (h1 : e.1 = p) (hp : p < ps.length) (h3 : e.2 ≤ 1) : (endT ps e).size ≤ 30 := by
  have h4 := dtext_size e.2 (by omega)
  have h5 := pc_ok_bounds (hps p hp)
  unfold endT
  rw [h1, pnm_eq hp]
  simp only [ByteArray.size_append]
  have e2 : (ByteArray.mk #[32]).size = 1 := rfl
  have e5 : (ByteArray.mk #[46]).size = 1 := rfl
  omega

theorem jEnds_size {N : Nt} (R : RightN N) {j : Nat} (hj : j < N.jts.length) (k : Nat) (hk : k ≤ N.jts[j].ends.length) (o : ByteArray) : (jEnds N.pcs (N.jts[j].ends.take k) o).size ≤ o.size + k * 30 := by
  induction k with
  | zero => simp [jEnds]
  | succ k ih =>
    rw [jEnds_succ _ _ _ (by omega), ByteArray.size_append]
    obtain ⟨p, h1, h2, _, h4⟩ := R.ends j hj k (by omega)
    have := endT_size R.pc h1 h2 h4
    have := ih (by omega)
    omega

theorem jHead_size {N : Nt} (R : RightN N) {j : Nat} (hj : j < N.jts.length) (o : ByteArray) : (jHead N.jts[j] o).size ≤ o.size + 30 := by
  have h1 := R.nsize j hj
  have h2 := kw_size N.jts[j].kind
  unfold jHead
  have e2 : (ByteArray.mk #[32]).size = 1 := rfl
  split
  · rw [ByteArray.size_append]; omega
  · simp only [ByteArray.size_append]; omega

theorem wJts_size {N : Nt} (R : RightN N) (k : Nat) (hk : k ≤ N.jts.length) (o : ByteArray) : (wJts N.pcs (N.jts.take k) o).size ≤ o.size + k * 200 := by
  induction k with
  | zero => simp [wJts]
  | succ k ih =>
    have hk' : k < N.jts.length := by omega
    rw [wJts_succ _ _ _ hk']
    unfold jLine
    have h1 := jEnds_size R hk' N.jts[k].ends.length (Nat.le_refl _) (jHead N.jts[k] (wJts N.pcs (N.jts.take k) o))
    rw [List.take_length] at h1
    have h2 := jHead_size R hk' (wJts N.pcs (N.jts.take k) o)
    have h3 := R.elen k hk'
    have h4 := ih (by omega)
    rw [ByteArray.size_append]
    have e5 : (ByteArray.mk #[10]).size = 1 := rfl
    omega

theorem wPcs_size' {N : Nt} (R : RightN N) (k : Nat) (hk : k ≤ N.pcs.length) : (wPcs (N.pcs.take k) ⟨#[]⟩).size ≤ k * 100 := by
  have := wPcs_size (ps := N.pcs.take k) (fun p hp => by
    rw [List.mem_take_iff_getElem] at hp
    obtain ⟨i, hi, rfl⟩ := hp
    exact R.pc i (by omega)) ⟨#[]⟩
  have e : (ByteArray.mk #[]).size = 0 := rfl
  rw [List.length_take] at this
  omega
end Go.Proofs.YtcodpnkfpmjleaaGreatDoor

/- What is written is read back: plain. Own work. -/
namespace Go.Proofs.YtcodpnkfpmjleaaGreatDoor
set_option maxHeartbeats 1000000

/-! ### Words and lines -/
def wbyte (c : UInt8) : Prop := c ≠ 10 ∧ c ≠ 32 ∧ c ≠ 9 ∧ c ≠ 35
def WordOk (l : Bl) : Prop := l ≠ [] ∧ ∀ c ∈ l, wbyte c
theorem wordsG_clean (l : Bl) (h : ∀ c ∈ l, wbyte c) : ∀ word rest, wordsG word (l ++ rest) = wordsG (word ++ l) rest := by
  induction l with
  | nil => intro word rest; simp
  | cons c l ih =>
    intro word rest
    have hc := h c (by simp)
    rw [List.cons_append, wordsG, if_neg hc.2.2.2, if_neg (by rintro (e | e); exact hc.2.1 e; exact hc.2.2.1 e), ih (fun c hc => h c (by simp [hc]))]
    simp
theorem putW_ok {l : Bl} (h : WordOk l) : putW l = [l] := if_neg h.1
/-- A word and a blank behind it. -/
theorem words_word {l : Bl} (h : WordOk l) (rest : Bl) : wordsL (l ++ 32 :: rest) = l :: wordsL rest := by
  unfold wordsL
  rw [wordsG_clean l h.2, List.nil_append, wordsG, if_neg (by decide), if_pos (.inl rfl), putW_ok h]
  rfl
theorem words_last {l : Bl} (h : WordOk l) : wordsL l = [l] := by
  have := wordsG_clean l h.2 [] []
  rw [List.append_nil] at this
  unfold wordsL
  rw [this, List.nil_append, wordsG, putW_ok h]
theorem words_blank (c : UInt8) (h : c = 32 ∨ c = 9) (rest : Bl) : wordsL (c :: rest) = wordsL rest := by
  unfold wordsL
  rw [wordsG, if_neg (by rcases h with rfl | rfl <;> decide), if_pos h]
  rfl
theorem words_remT (rest : Bl) : wordsL (35 :: rest) = [] := by
  unfold wordsL
  rw [wordsG, if_pos rfl]
  rfl
def joinB : List Bl → Bl
  | [] => []
  | [w] => w
  | w :: v :: ws => w ++ 32 :: joinB (v :: ws)
theorem words_join : ∀ (ws : List Bl), (∀ w ∈ ws, WordOk w) → wordsL (joinB ws) = ws
  | [], _ => rfl
  | [w], h => words_last (h w (by simp))
  | w :: v :: ws, h => by
    rw [joinB, words_word (h w (by simp)), words_join (v :: ws) (fun x hx => h x (List.mem_cons_of_mem _ hx))]
theorem join_clean : ∀ (ws : List Bl), (∀ w ∈ ws, WordOk w) → ∀ c ∈ joinB ws, c ≠ 10
  | [], _ => by intro c hc; simp [joinB] at hc
  | [w], h => fun c hc => ((h w (by simp)).2 c hc).1
  | w :: v :: ws, h => by
    intro c hc
    rw [joinB, List.mem_append, List.mem_cons] at hc
    rcases hc with hc | rfl | hc
    · exact ((h w (by simp)).2 c hc).1
    · decide
    · exact join_clean (v :: ws) (fun x hx => h x (List.mem_cons_of_mem _ hx)) c hc
theorem linesG_clean (l : Bl) (h : ∀ c ∈ l, c ≠ 10) : ∀ cur rest, linesG cur (l ++ rest) = linesG (cur ++ l) rest := by
  induction l with
  | nil => intro cur rest; simp
  | cons c l ih =>
    intro cur rest
    rw [List.cons_append, linesG, if_neg (h c (by simp)), ih (fun c hc => h c (by simp [hc]))]
    simp
theorem lines_line {l : Bl} (h : ∀ c ∈ l, c ≠ 10) (rest : Bl) : linesL (l ++ 10 :: rest) = l :: linesL rest := by
  unfold linesL
  rw [linesG_clean l h, List.nil_append, linesG, if_pos rfl]
def rowsB (L : List Bl) : Bl := L.flatMap (fun l => l ++ [10])
theorem lines_rows : ∀ (L : List Bl), (∀ l ∈ L, ∀ c ∈ l, c ≠ 10) → ∀ rest, linesL (rowsB L ++ rest) = L ++ linesL rest
  | [], _, rest => rfl
  | l :: L, h, rest => by
    have e : rowsB (l :: L) ++ rest = l ++ 10 :: (rowsB L ++ rest) := by simp [rowsB]
    rw [e, lines_line (h l (by simp)), lines_rows L (fun x hx => h x (List.mem_cons_of_mem _ hx)), List.cons_append]
theorem rowsB_add (L M : List Bl) : rowsB (L ++ M) = rowsB L ++ rowsB M := by simp [rowsB]
/-! ### Reading, by the words of the lines -/
def readW (N : Nt) : List (List Bl) → Option Nt
  | [] => some N
  | ws :: r => if (lineL N ws).1 ≠ 0 then none else readW (lineL N ws).2 r
theorem readG_W : ∀ (ls : List Bl) (N M : Nt) (i : Int), readW N (ls.map wordsL) = some M → readG N i ls = wholeR M
  | [], N, M, i, h => by
    have e : N = M := by simpa [readW] using h
    rw [e]; rfl
  | l :: ls, N, M, i, h => by
    rw [List.map_cons, readW] at h
    rw [readG]
    split at h
    · exact absurd h (by simp)
    · rename_i hn
      rw [if_neg hn]
      exact readG_W ls _ _ _ h
def fullW (wss : List (List Bl)) : List (List Bl) := wss.filter (fun ws => !ws.isEmpty)
theorem fullW_app (a b : List (List Bl)) : fullW (a ++ b) = fullW a ++ fullW b := by simp [fullW]
theorem readW_full : ∀ (wss : List (List Bl)) (N : Nt), readW N wss = readW N (fullW wss)
  | [], N => rfl
  | ws :: r, N => by
    cases ws with
    | nil =>
      have e : fullW ([] :: r) = fullW r := by simp [fullW]
      rw [e, readW, lineL, if_neg (by simp)]
      exact readW_full r N
    | cons a ws =>
      have e : fullW ((a :: ws) :: r) = (a :: ws) :: fullW r := by simp [fullW]
      rw [e, readW, readW]
      split
      · rfl
      · exact readW_full r _
theorem readW_app : ∀ (a b : List (List Bl)) (N M : Nt), readW N a = some M → readW N (a ++ b) = readW M b
  | [], b, N, M, h => by
    have e : N = M := by simpa [readW] using h
    rw [e]; rfl
  | ws :: a, b, N, M, h => by
    rw [readW] at h
    rw [List.cons_append, readW]
    split at h
    · exact absurd h (by simp)
    · rename_i hn
      rw [if_neg hn]
      exact readW_app a b _ _ h
/-! ### Numbers -/
theorem valG_from : ∀ (l : Bl) (n : Int), l.foldl (fun n c => 10 * n + ((c.toNat : Int) - 48)) n = n * 10 ^ l.length + valD l
  | [], n => by simp [valD]
  | c :: l, n => by
    have h1 := valG_from l (10 * n + ((c.toNat : Int) - 48))
    have h2 := valG_from l (10 * 0 + ((c.toNat : Int) - 48))
    have e : valD (c :: l) = l.foldl (fun n c => 10 * n + ((c.toNat : Int) - 48)) (10 * 0 + ((c.toNat : Int) - 48)) := rfl
    rw [e, h2, List.foldl_cons, h1, List.length_cons, Int.pow_succ]
    generalize (10 : Int) ^ l.length = P
    generalize valD l = V
    generalize (c.toNat : Int) - 48 = d
    rw [Int.add_mul, Int.add_mul, Int.mul_comm 10 n, Int.mul_assoc n 10 P, Int.mul_comm 10 P, Int.mul_zero, Int.zero_mul]
    omega
theorem valD_cons (c : UInt8) (l : Bl) : valD (c :: l) = ((c.toNat : Int) - 48) * 10 ^ l.length + valD l := by
  have := valG_from l (10 * 0 + ((c.toNat : Int) - 48))
  have e : valD (c :: l) = l.foldl (fun n c => 10 * n + ((c.toNat : Int) - 48)) (10 * 0 + ((c.toNat : Int) - 48)) := rfl
  rw [e, this, Int.mul_zero, Int.zero_add]
theorem bs_app (a b : ByteArray) : bs (a ++ b) = bs a ++ bs b := by simp [bs, ByteArray.data_append]
theorem md_zero (f : Nat) (s : ByteArray) : md f 0 s = s := by cases f <;> simp [md]
theorem md_val (f : Nat) : ∀ (n : Int) (s : ByteArray), n.toNat < f → 0 ≤ n → (bs s).all isD = true →
    (bs (md f n s)).all isD = true ∧ valD (bs (md f n s)) = n * 10 ^ (bs s).length + valD (bs s) ∧ (0 < n → (bs (md f n s)).head? ≠ some 48 ∧ 1 ≤ (bs (md f n s)).length) := by
  induction f with
  | zero => intro n s h; omega
  | succ f ih =>
    intro n s hf h0 hs
    rw [md]
    by_cases hn : n ≤ 0
    · have e : n = 0 := by omega
      subst e
      rw [if_pos (by omega)]
      exact ⟨hs, by simp, by omega⟩
    · rw [if_neg hn]
      have hd : (UInt8.ofNat (48 + n % 10).toNat).toNat = 48 + (n % 10).toNat := by
        have : (48 + n % 10).toNat < 256 := by omega
        simp only [UInt8.toNat_ofNat']
        omega
      have eb : bs (ByteArray.empty.push (UInt8.ofNat (48 + n % 10).toNat) ++ s) = UInt8.ofNat (48 + n % 10).toNat :: bs s := by rw [bs_app]; rfl
      generalize hc : UInt8.ofNat (48 + n % 10).toNat = c at *
      have hcD : isD c = true := by simp only [isD, Bool.and_eq_true, decide_eq_true_eq]; omega
      obtain ⟨h1, h2, h3⟩ := ih (n / 10) (ByteArray.empty.push c ++ s) (by omega) (by omega) (by rw [eb, List.all_cons, hcD, hs]; rfl)
      refine ⟨h1, ?_, ?_⟩
      · rw [h2, eb, valD_cons, List.length_cons, Int.pow_succ]
        generalize (10 : Int) ^ (bs s).length = P
        generalize valD (bs s) = V
        have e1 : (c.toNat : Int) - 48 = n % 10 := by omega
        rw [e1, Int.mul_comm P 10, ← Int.mul_assoc, ← Int.add_assoc, ← Int.add_mul]
        congr 2
        omega
      · intro _
        by_cases h10 : 0 < n / 10
        · exact h3 h10
        · have e : n / 10 = 0 := by omega
          rw [e, md_zero, eb]
          refine ⟨?_, by simp⟩
          rw [List.head?_cons]
          intro hh
          have : c = 48 := by simpa using hh
          rw [this] at hd
          have : (48 : UInt8).toNat = 48 := rfl
          omega
theorem dtext_val (n : Int) (h0 : 1 ≤ n) (h1 : n ≤ 10000000) : numOk (bs (dtext n)) = true ∧ valD (bs (dtext n)) = n ∧ (bs (dtext n)).all isD = true ∧ bs (dtext n) ≠ [] := by
  have hs := dtext_size n h1
  rw [← bs_len] at hs
  unfold dtext at *
  rw [if_neg (by omega)] at *
  obtain ⟨h2, h3, h4⟩ := md_val (n.toNat + 1) n ⟨#[]⟩ (by omega) (by omega) rfl
  obtain ⟨h5, h6⟩ := h4 (by omega)
  refine ⟨?_, ?_, h2, ?_⟩
  · simp only [numOk, h2, Bool.true_and, Bool.and_eq_true, Bool.or_eq_true, decide_eq_true_eq]
    exact ⟨⟨h6, hs⟩, .inl h5⟩
  · rw [h3]
    have e1 : (bs (⟨#[]⟩ : ByteArray)).length = 0 := rfl
    have e2 : valD (bs (⟨#[]⟩ : ByteArray)) = 0 := rfl
    rw [e1, e2]
    simp
  · intro e
    rw [e] at h6
    simp at h6
theorem digit_wb {c : UInt8} (h : isD c = true) : wbyte c := by
  simp only [isD, Bool.and_eq_true, decide_eq_true_eq] at h
  refine ⟨?_, ?_, ?_, ?_⟩ <;> (rintro rfl; revert h; decide)
theorem byteOk_wb {c : UInt8} (h : byteOk c = true) : wbyte c := by
  refine ⟨?_, ?_, ?_, ?_⟩ <;> (rintro rfl; revert h; decide)
theorem dtext_word (n : Int) (h0 : 1 ≤ n) (h1 : n ≤ 10000000) : WordOk (bs (dtext n)) := by
  obtain ⟨_, _, h2, h3⟩ := dtext_val n h0 h1
  exact ⟨h3, fun c hc => digit_wb (List.all_eq_true.1 h2 c hc)⟩
theorem name_word {s : ByteArray} (h : nm s = true) : WordOk (bs s) := by
  simp only [nm, Bool.and_eq_true, decide_eq_true_eq] at h
  refine ⟨?_, fun c hc => byteOk_wb (List.all_eq_true.1 h.1.1 c hc)⟩
  intro e
  have := bs_len s
  rw [e] at this
  simp at this
  omega
/-! ### The words of the text -/
def wsP (p : Pc) : List Bl := [pieceB, bs p.name, bs (dtext p.len), speedB, bs (dtext p.speed), brakeB, bs (dtext p.brake)]
def endB (ps : List Pc) (e : Int × Int) : Bl := bs (pnm ps e.1) ++ 46 :: bs (dtext e.2)
def wsJ (ps : List Pc) (j : Jt) : List Bl := kindB j.kind.toNat :: ((if j.name.size = 0 then [] else [bs j.name]) ++ j.ends.map (endB ps))
theorem lineP_rows (p : Pc) : bs (lineP p) = rowsB [joinB (wsP p)] := by
  have e1 : bs (⟨#[112, 105, 101, 99, 101, 32]⟩ : ByteArray) = pieceB ++ [32] := rfl
  have e2 : bs (⟨#[32]⟩ : ByteArray) = [32] := rfl
  have e3 : bs (⟨#[32, 115, 112, 101, 101, 100, 32]⟩ : ByteArray) = 32 :: speedB ++ [32] := rfl
  have e4 : bs (⟨#[32, 98, 114, 97, 107, 101, 32]⟩ : ByteArray) = 32 :: brakeB ++ [32] := rfl
  have e5 : bs (⟨#[10]⟩ : ByteArray) = [10] := rfl
  unfold lineP
  simp only [bs_app, e1, e2, e3, e4, e5, rowsB, joinB, wsP, List.flatMap_cons, List.flatMap_nil, List.append_nil, List.append_assoc, List.cons_append, List.nil_append]
theorem wPcs_rows : ∀ (ps : List Pc) (o : ByteArray), bs (wPcs ps o) = bs o ++ rowsB (ps.map fun p => joinB (wsP p))
  | [], o => by simp [wPcs, rowsB]
  | p :: ps, o => by
    have := wPcs_rows ps (o ++ lineP p)
    have e : wPcs (p :: ps) o = wPcs ps (o ++ lineP p) := rfl
    rw [e, this, bs_app, lineP_rows, List.append_assoc, ← rowsB_add]
    rfl
theorem kw_bs (k : Int) (h1 : 1 ≤ k) (h4 : k ≤ 4) : bs (kw k) = kindB k.toNat := by
  have : k = 1 ∨ k = 2 ∨ k = 3 ∨ k = 4 := by omega
  rcases this with rfl | rfl | rfl | rfl <;> rfl
theorem jEnds_bs (ps : List Pc) : ∀ (es : List (Int × Int)) (o : ByteArray), bs (jEnds ps es o) = bs o ++ (es.map (endB ps)).flatMap (fun w => 32 :: w)
  | [], o => by simp [jEnds]
  | e :: es, o => by
    have := jEnds_bs ps es (o ++ endT ps e)
    have e1 : jEnds ps (e :: es) o = jEnds ps es (o ++ endT ps e) := rfl
    have e2 : bs (endT ps e) = 32 :: endB ps e := by
      have x1 : bs (⟨#[32]⟩ : ByteArray) = [32] := rfl
      have x2 : bs (⟨#[46]⟩ : ByteArray) = [46] := rfl
      simp [endT, bs_app, x1, x2, endB]
    rw [e1, this, bs_app, e2, List.append_assoc]
    rfl
theorem joinB_flat (w : Bl) : ∀ (ws : List Bl), joinB (w :: ws) = w ++ ws.flatMap (fun w => 32 :: w)
  | [] => by simp [joinB]
  | v :: ws => by rw [joinB, joinB_flat v ws, List.flatMap_cons]; simp
theorem jLine_rows (ps : List Pc) (j : Jt) (h1 : 1 ≤ j.kind) (h4 : j.kind ≤ 4) (o : ByteArray) : bs (jLine ps o j) = bs o ++ rowsB [joinB (wsJ ps j)] := by
  have x1 : bs (⟨#[32]⟩ : ByteArray) = [32] := rfl
  have x2 : bs (⟨#[10]⟩ : ByteArray) = [10] := rfl
  unfold jLine jHead wsJ
  rw [bs_app, jEnds_bs, joinB_flat, x2]
  split
  · simp [bs_app, kw_bs j.kind h1 h4, rowsB]
  · simp [bs_app, kw_bs j.kind h1 h4, rowsB, x1]
theorem wJts_rows (ps : List Pc) : ∀ (js : List Jt) (_ : ∀ j ∈ js, 1 ≤ j.kind ∧ j.kind ≤ 4) (o : ByteArray), bs (wJts ps js o) = bs o ++ rowsB (js.map fun j => joinB (wsJ ps j))
  | [], _, o => by simp [wJts, rowsB]
  | j :: js, h, o => by
    have := wJts_rows ps js (fun x hx => h x (List.mem_cons_of_mem _ hx)) (jLine ps o j)
    have e : wJts ps (j :: js) o = wJts ps js (jLine ps o j) := rfl
    rw [e, this, jLine_rows ps j (h j (by simp)).1 (h j (by simp)).2, List.append_assoc, ← rowsB_add]
    rfl
def linesN (N : Nt) : List (List Bl) := N.pcs.map wsP ++ N.jts.map (wsJ N.pcs)
theorem wText_rows {N : Nt} (h : ∀ j ∈ N.jts, 1 ≤ j.kind ∧ j.kind ≤ 4) : bs (wText N) = rowsB ((linesN N).map joinB) := by
  unfold wText linesN
  rw [wJts_rows _ _ h, wPcs_rows, List.map_append, rowsB_add, List.map_map, List.map_map]
  rfl
end Go.Proofs.YtcodpnkfpmjleaaGreatDoor

/- The text of a right net, as a plain function. Own work. -/
import Derived.Test.YtokhbnlpifmjkaaDoorTxB
import Derived.Lib.SmallJoins
namespace Go.Proofs.YtokhbnlpifmjkaaDoor
open Go.RowKit

def pnm (ps : List Pc) (i : Int) : ByteArray := match ps[i.toNat]? with | some p => p.name | none => ⟨#[]⟩
theorem pnm_eq {ps : List Pc} {i : Nat} (h : i < ps.length) : pnm ps (i : Int) = ps[i].name := by simp [pnm, h]

def kw (k : Int) : ByteArray := if k = 1 then ⟨#[101, 110, 100]⟩ else if k = 2 then ⟨#[106, 111, 105, 110]⟩ else if k = 3 then ⟨#[115, 119, 105, 116, 99, 104]⟩ else ⟨#[99, 114, 111, 115, 115]⟩
theorem kw_size (k : Int) : (kw k).size ≤ 6 := by
  unfold kw
  repeat' split
  all_goals decide

def endT (ps : List Pc) (e : Int × Int) : ByteArray := ((⟨#[32]⟩ ++ pnm ps e.1) ++ ⟨#[46]⟩) ++ dtext e.2
def jEnds (ps : List Pc) (es : List (Int × Int)) (o : ByteArray) : ByteArray := es.foldl (fun o e => o ++ endT ps e) o
def jHead (j : Jt) (o : ByteArray) : ByteArray := if j.name.size = 0 then o ++ kw j.kind else o ++ kw j.kind ++ (⟨#[32]⟩ ++ j.name)
def jLine (ps : List Pc) (o : ByteArray) (j : Jt) : ByteArray := jEnds ps j.ends (jHead j o) ++ ⟨#[10]⟩
def wJts (ps : List Pc) (js : List Jt) (o : ByteArray) : ByteArray := js.foldl (jLine ps) o
def wText (N : Nt) : ByteArray := wJts N.pcs N.jts (wPcs N.pcs ⟨#[]⟩)

theorem jEnds_succ (ps : List Pc) (es : List (Int × Int)) (k : Nat) (hk : k < es.length) (o : ByteArray) : jEnds ps (es.take (k + 1)) o = jEnds ps (es.take k) o ++ endT ps es[k] := by
  unfold jEnds
  rw [List.take_succ_eq_append_getElem hk, List.foldl_append]
  rfl
theorem wJts_succ (ps : List Pc) (js : List Jt) (k : Nat) (hk : k < js.length) (o : ByteArray) : wJts ps (js.take (k + 1)) o = jLine ps (wJts ps (js.take k) o) js[k] := by
  unfold wJts
  rw [List.take_succ_eq_append_getElem hk, List.foldl_append]
  rfl

/-- What the writers need of a right net. -/
structure RightN (N : Nt) : Prop where
  lp : N.pcs.length ≤ 100
  lj : N.jts.length ≤ 120
  pc : ∀ k (h : k < N.pcs.length), N.pcs[k].ok = true
  kind : ∀ k (h : k < N.jts.length), N.jts[k].kind = 1 ∨ N.jts[k].kind = 2 ∨ N.jts[k].kind = 3 ∨ N.jts[k].kind = 4
  elen : ∀ k (h : k < N.jts.length), N.jts[k].ends.length ≤ 4
  ends : ∀ k (h : k < N.jts.length) i (hi : i < N.jts[k].ends.length), ∃ p : Nat, N.jts[k].ends[i].1 = p ∧ p < N.pcs.length ∧ 0 ≤ N.jts[k].ends[i].2 ∧ N.jts[k].ends[i].2 ≤ 1
  nsize : ∀ k (h : k < N.jts.length), N.jts[k].name.size ≤ 20
  named : ∀ k (h : k < N.jts.length), (3 ≤ N.jts[k].kind ↔ N.jts[k].name.size ≠ 0)

theorem nm_size {s : ByteArray} (h : nm s = true) : 1 ≤ s.size ∧ s.size ≤ 20 := by
  simp [nm] at h; omega

theorem rightN {N : Nt} (h : netOk N = (0, 0)) : RightN N := by
  obtain ⟨h1, h2, h3, h4, _⟩ := right_facts h
  simp only [sizeBad, Bool.or_eq_false_iff, decide_eq_false_iff_not] at h1
  refine ⟨by omega, by omega, ?_, ?_, ?_, ?_, ?_, ?_⟩
  · intro k hk
    have := h2 k hk
    rw [pcBad_eq hk] at this
    simp only [Bool.or_eq_false_iff, Bool.not_eq_false'] at this
    exact this.1
  · intro k hk
    have := h3 k hk
    rw [jtBad3_eq hk] at this
    simp only [Bool.or_eq_false_iff, Bool.not_eq_false', inR, Bool.and_eq_true, decide_eq_true_eq] at this
    omega
  · intro k hk
    have := h3 k hk
    rw [jtBad3_eq hk] at this
    simp only [Bool.or_eq_false_iff, Bool.not_eq_false', inR, Bool.and_eq_true, decide_eq_true_eq, bne_eq_false_iff_eq] at this
    omega
  · intro k hk i hi
    have := h3 k hk
    rw [jtBad3_eq hk] at this
    simp only [Bool.or_eq_false_iff, List.any_eq_false] at this
    have h5 := this.2 _ (List.getElem_mem hi)
    simp only [endOk, inR, Bool.not_eq_true', Bool.and_eq_false_iff, decide_eq_false_iff_not, not_or, Decidable.not_not] at h5
    exact ⟨N.jts[k].ends[i].1.toNat, by omega, by omega, by omega, by omega⟩
  · intro k hk
    have := h4 k hk
    rw [jtBad4_eq hk] at this
    split at this
    · simp only [Bool.not_eq_false', List.isEmpty_iff] at this
      have e : N.jts[k].name.toList.length = N.jts[k].name.size := by rw [Lib.toList_data]; rfl
      rw [this] at e
      simp at e
      omega
    · simp only [Bool.or_eq_false_iff, Bool.not_eq_false'] at this
      exact (nm_size this.1).2
  · intro k hk
    have := h4 k hk
    rw [jtBad4_eq hk] at this
    split at this
    · simp only [Bool.not_eq_false', List.isEmpty_iff] at this
      have e : N.jts[k].name.toList.length = N.jts[k].name.size := by rw [Lib.toList_data]; rfl
      rw [this] at e
      simp at e
      omega
    · simp only [Bool.or_eq_false_iff, Bool.not_eq_false'] at this
      have := nm_size this.1
      omega

theorem isEmpty_size (s : ByteArray) : s.toList.isEmpty = decide (s.size = 0) := by
  rw [Lib.toList_data, Bool.eq_iff_iff, List.isEmpty_iff, decide_eq_true_eq]
  constructor
  · intro h
    simp [ByteArray.size, ← Array.length_toList, h]
  · intro h
    have : s.data.toList.length = 0 := by rw [Array.length_toList]; exact h
    exact List.eq_nil_of_length_eq_zero this

theorem endT_size {ps : List Pc} (hps : ∀ k (h : k < ps.length), ps[k].ok = true) {e : Int × Int} {p : Nat} (h1 : e.1 = p) (hp : p < ps.length) (h3 : e.2 ≤ 1) : (endT ps e).size ≤ 30 := by
  have h4 := dtext_size e.2 (by omega)
  have h5 := pc_ok_bounds (hps p hp)
  unfold endT
  rw [h1, pnm_eq hp]
  simp only [ByteArray.size_append]
  have e2 : (ByteArray.mk #[32]).size = 1 := rfl
  have e5 : (ByteArray.mk #[46]).size = 1 := rfl
  omega

theorem jEnds_size {N : Nt} (R : RightN N) {j : Nat} (hj : j < N.jts.length) (k : Nat) (hk : k ≤ N.jts[j].ends.length) (o : ByteArray) : (jEnds N.pcs (N.jts[j].ends.take k) o).size ≤ o.size + k * 30 := by
  induction k with
  | zero => simp [jEnds]
  | succ k ih =>
    rw [jEnds_succ _ _ _ (by omega), ByteArray.size_append]
    obtain ⟨p, h1, h2, _, h4⟩ := R.ends j hj k (by omega)
    have := endT_size R.pc h1 h2 h4
    have := ih (by omega)
    omega

theorem jHead_size {N : Nt} (R : RightN N) {j : Nat} (hj : j < N.jts.length) (o : ByteArray) : (jHead N.jts[j] o).size ≤ o.size + 30 := by
  have h1 := R.nsize j hj
  have h2 := kw_size N.jts[j].kind
  unfold jHead
  have e2 : (ByteArray.mk #[32]).size = 1 := rfl
  split
  · rw [ByteArray.size_append]; omega
  · simp only [ByteArray.size_append]; omega

theorem wJts_size {N : Nt} (R : RightN N) (k : Nat) (hk : k ≤ N.jts.length) (o : ByteArray) : (wJts N.pcs (N.jts.take k) o).size ≤ o.size + k * 200 := by
  induction k with
  | zero => simp [wJts]
  | succ k ih =>
    have hk' : k < N.jts.length := by omega
    rw [wJts_succ _ _ _ hk']
    unfold jLine
    have h1 := jEnds_size R hk' N.jts[k].ends.length (Nat.le_refl _) (jHead N.jts[k] (wJts N.pcs (N.jts.take k) o))
    rw [List.take_length] at h1
    have h2 := jHead_size R hk' (wJts N.pcs (N.jts.take k) o)
    have h3 := R.elen k hk'
    have h4 := ih (by omega)
    rw [ByteArray.size_append]
    have e5 : (ByteArray.mk #[10]).size = 1 := rfl
    omega

theorem wPcs_size' {N : Nt} (R : RightN N) (k : Nat) (hk : k ≤ N.pcs.length) : (wPcs (N.pcs.take k) ⟨#[]⟩).size ≤ k * 100 := by
  have := wPcs_size (ps := N.pcs.take k) (fun p hp => by
    rw [List.mem_take_iff_getElem] at hp
    obtain ⟨i, hi, rfl⟩ := hp
    exact R.pc i (by omega)) ⟨#[]⟩
  have e : (ByteArray.mk #[]).size = 0 := rfl
  rw [List.length_take] at this
  omega
end Go.Proofs.YtokhbnlpifmjkaaDoor

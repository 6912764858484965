/- Bounds of a text's reading: plain. Own work. -/
import Derived.Test.YtcodpnkfpmjleaaGreatDoorRnW
namespace Go.Proofs.YtcodpnkfpmjleaaGreatDoor
set_option maxHeartbeats 1000000

theorem linesG_bd : ∀ (t cur : Bl), (linesG cur t).length ≤ t.length + 1 ∧ 1 ≤ (linesG cur t).length ∧ ∀ l ∈ linesG cur t, l.length ≤ cur.length + t.length
  | [], cur => by simp [linesG]
  | c :: t, cur => by
    unfold linesG
    split
    · have h := linesG_bd t []
      refine ⟨by simp only [List.length_cons]; omega, by simp, fun l hl => ?_⟩
      rcases List.mem_cons.1 hl with rfl | hl
      · simp only [List.length_cons]; omega
      · have := h.2.2 l hl
        simp only [List.length_cons, List.length_nil] at *
        omega
    · have h := linesG_bd t (cur ++ [c])
      refine ⟨by simp only [List.length_cons]; omega, h.2.1, fun l hl => ?_⟩
      have := h.2.2 l hl
      simp only [List.length_append, List.length_cons, List.length_nil] at *
      omega
theorem putW_bd (w : Bl) : (putW w).length ≤ 1 ∧ ∀ x ∈ putW w, x.length ≤ w.length := by
  unfold putW
  split
  · simp
  · simp
theorem wordsG_bd : ∀ (t word : Bl), (wordsG word t).length ≤ t.length + 1 ∧ ∀ l ∈ wordsG word t, l.length ≤ word.length + t.length
  | [], word => by
    have h := putW_bd word
    rw [wordsG]
    exact ⟨by simpa using h.1, fun l hl => by have := h.2 l hl; simp; exact this⟩
  | c :: t, word => by
    have hp := putW_bd word
    unfold wordsG
    split
    · exact ⟨by simp only [List.length_cons]; omega, fun l hl => by have := hp.2 l hl; simp only [List.length_cons]; omega⟩
    · split
      · have h := wordsG_bd t []
        refine ⟨by simp only [List.length_append, List.length_cons]; omega, fun l hl => ?_⟩
        rcases List.mem_append.1 hl with hl | hl
        · have := hp.2 l hl; simp only [List.length_cons]; omega
        · have := h.2 l hl
          simp only [List.length_cons, List.length_nil] at *
          omega
      · have h := wordsG_bd t (word ++ [c])
        refine ⟨by simp only [List.length_cons]; omega, fun l hl => ?_⟩
        have := h.2 l hl
        simp only [List.length_append, List.length_cons, List.length_nil] at *
        omega
/-- How great a net is that a text has told so far. -/
structure NSz (N : Nt) (i : Nat) : Prop where
  pcs : N.pcs.length ≤ i
  jts : N.jts.length ≤ i
  pn : ∀ p ∈ N.pcs, p.name.size ≤ 20
  jn : ∀ j ∈ N.jts, j.name.size ≤ 20 ∧ j.ends.length ≤ 4
theorem NSz.more {N : Nt} {i : Nat} (h : NSz N i) : NSz N (i + 1) := ⟨by have := h.pcs; omega, by have := h.jts; omega, h.pn, h.jn⟩
theorem nm_sizeR {s : ByteArray} (h : nm s = true) : s.size ≤ 20 := by
  simp only [nm, Bool.and_eq_true, decide_eq_true_eq] at h
  exact h.2
theorem NSz.piece {N : Nt} {i : Nat} (h : NSz N i) (ws : List Bl) : NSz (pieceL N ws).2 (i + 1) ∧ (pieceL N ws).2.jts = N.jts := by
  unfold pieceL
  split
  · split
    · rename_i hc
      split
      · refine ⟨⟨?_, ?_, fun p hp => ?_, h.jn⟩, rfl⟩
        · have := h.pcs
          simp only [List.length_append, List.length_singleton]
          omega
        · have := h.jts
          dsimp only
          omega
        · rcases List.mem_append.1 hp with hp | hp
          · exact h.pn p hp
          · rw [List.mem_singleton.1 hp]
            exact nm_sizeR hc.2.2.1
      · exact ⟨h.more, rfl⟩
    · exact ⟨h.more, rfl⟩
  · exact ⟨h.more, rfl⟩
theorem NSz.jointE {N : Nt} {i kd : Nat} (h : NSz N i) (hk : kd ≤ 4) {name : ByteArray} (hn : name.size ≤ 20) (ws : List Bl) : NSz (jointE N kd name ws).2 (i + 1) ∧ (jointE N kd name ws).2.pcs = N.pcs := by
  unfold Go.Proofs.YtcodpnkfpmjleaaGreatDoor.jointE
  split
  · exact ⟨h.more, rfl⟩
  rename_i hl
  split
  · exact ⟨h.more, rfl⟩
  split
  · exact ⟨h.more, rfl⟩
  split
  · exact ⟨h.more, rfl⟩
  split
  · exact ⟨h.more, rfl⟩
  · refine ⟨⟨?_, ?_, h.pn, fun j hj => ?_⟩, rfl⟩
    · have := h.pcs
      dsimp only
      omega
    · have := h.jts
      simp only [List.length_append, List.length_singleton]
      omega
    · rcases List.mem_append.1 hj with hj | hj
      · exact h.jn j hj
      · rw [List.mem_singleton.1 hj]
        refine ⟨hn, ?_⟩
        rw [List.length_map]
        omega
theorem NSz.joint {N : Nt} {i : Nat} (h : NSz N i) (ws : List Bl) : NSz (jointL N ws).2 (i + 1) ∧ (jointL N ws).2.pcs = N.pcs := by
  unfold jointL
  split
  · exact ⟨h.more, rfl⟩
  · split
    · exact ⟨h.more, rfl⟩
    · split
      · exact h.jointE (kindW_le _) (by rw [sb_size]; simp) _
      · split
        · exact ⟨h.more, rfl⟩
        · split
          · rename_i hn
            exact h.jointE (kindW_le _) (nm_sizeR hn) _
          · exact ⟨h.more, rfl⟩
end Go.Proofs.YtcodpnkfpmjleaaGreatDoor

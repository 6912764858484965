/- impl.inOrder. Own work. -/
import Derived.Test.YtplnppdlabpodaaTcE
namespace Go.Proofs.Ytplnppdlabpodaa
open Go.RowKit Go.Sort Go.Proofs
set_option maxHeartbeats 2000000

theorem below_sort (w : World) (B blk n : Nat) (d : Array Prt) (os : Array Obj) (hB : B ≤ blk) (hs : B ≤ w.heap.size) : RowKit.Below B w (sortWorldK encP 3 w blk 0 n d os) := by
  refine ⟨rfl, rfl, rfl, by simp [sortWorldK, putRowK, putRow, mapBlock, grow, Sort.ahead], fun k hk => ?_⟩
  have h1 : k < w.heap.size := by omega
  have h2 : blk ≠ k := by omega
  simp [sortWorldK, putRowK, putRow, mapBlock, grow, Sort.ahead, Array.getElem?_append, h1, Array.getElem_modify, h2]

theorem parts_holds {w : World} {b : Nat} {d : Array Prt} (h : HoldsK encP 3 w b 0 d) : PartsAt w (some ⟨b, 0, none⟩) d.toList := by
  intro k hk
  have hk' : k < d.size := by simpa using hk
  have c : ∀ t, t < 3 → w.cell? ⟨b, 0 + (k * 3 + t), none⟩ = some ((encP d[k]!)[t]!) := fun t ht => by
    have h1 := (h (k * 3 + t) (by rw [size_flatK]; omega)).1
    rw [get_flatK _ _ _ _ (by omega), show (k * 3 + t) / 3 = k by omega, show (k * 3 + t) % 3 = t by omega] at h1
    exact h1
  have e : d[k]! = d[k] := getElem!_pos d k hk'
  rw [e] at c
  refine ⟨b, 0, rfl, ?_, ?_, ?_⟩
  · have := c 0 (by omega); simpa [encP] using this
  · have := c 1 (by omega); simpa [encP, Nat.add_assoc] using this
  · have := c 2 (by omega); simpa [encP, Nat.add_assoc] using this

theorem partCells_get (ps : List Prt) : ∀ k t, (hk : k < ps.length) → t < 3 → (partCells ps)[k * 3 + t]? = some ((encP ps[k])[t]!) := by
  induction ps with
  | nil => intro k t hk; simp at hk
  | cons x l ih =>
    intro k t hk ht
    have hc : partCells (x :: l) = encP x ++ partCells l := by simp [partCells, encP]
    have hl : (encP x).length = 3 := rfl
    rw [hc]
    match k, hk with
    | 0, hk =>
      rw [List.getElem?_append_left (by rw [hl]; omega)]
      simp only [Nat.zero_mul, Nat.zero_add, List.getElem_cons_zero]
      rw [List.getElem?_eq_getElem (by rw [hl]; omega), getElem!_pos (encP x) t (by rw [hl]; omega)]
    | k + 1, hk =>
      rw [List.getElem?_append_right (by rw [hl]; omega), hl, show (k + 1) * 3 + t - 3 = k * 3 + t by omega]
      rw [ih k t (by simp at hk; omega) ht]
      rfl

theorem holds_of_owns {w1 : World} {g : Nat} {cur : Array Value} {T : TypeId} {ps : List Prt} (hg : w1.heap[g]? = some (.cells cur T (0, 0))) (ht : cur.toList.take (ps.length * 3) = partCells ps) : HoldsK encP 3 w1 g 0 ps.toArray := by
  intro j hj
  rw [size_flatK] at hj
  simp at hj
  have hk : j / 3 < ps.length := by omega
  have hp := partCells_get ps (j / 3) (j % 3) hk (by omega)
  rw [show j / 3 * 3 + j % 3 = j by omega, ← ht, List.getElem?_take, if_pos (by omega)] at hp
  refine ⟨?_, by simp [World.frozen?, hg]⟩
  rw [Nat.zero_add, cell_of_row w1 g j cur T (0, 0) hg, get_flatK _ _ _ _ (by simpa using hj)]
  rw [Array.getElem?_toList] at hp
  rw [hp]
  simp only [id]
  rw [getElem!_pos ps.toArray (j / 3) (by simpa using hk)]
  simp
end Go.Proofs.Ytplnppdlabpodaa

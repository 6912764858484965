/- impl.Touch, over whatever inOrder answers as it should. Own work. -/
import Derived.Test.YtijdigdcmjdooaaGreatMxAO
import Derived.Test.YtijdigdcmjdooaaGreatMxBE
import Derived.Lib.QuietBelow
import Derived.BigQuiet
import Derived.Shelf.SlSortCmp.WholeK
import Derived.Shelf.SlSortCmp.NoneTotal
import Derived.Shelf.SlicesE.Clone
import Derived.Test.YtijdigdcmjdooaaGreatProg
import Derived.Test.YtijdigdcmjdooaaGreatDrS
import Derived.Test.YtijdigdcmjdooaaGreatRcK
namespace Go.Proofs.YtijdigdcmjdooaaGreat
open Go.RowKit Go.Sort
set_option maxHeartbeats 4000000

/-- A plain address, or nil where there is nothing. -/
def PlainZ (z : Option Addr) (n : Nat) : Prop := (∃ b o, z = some ⟨b, o, none⟩) ∨ (z = none ∧ n = 0)
theorem parts_tail {w : World} {b off : Nat} {x : Prt} {l : List Prt} (h : PartsAt w (some ⟨b, off, none⟩) (x :: l)) : PartsAt w (some ⟨b, off + 3, none⟩) l := by
  intro k hk
  obtain ⟨b', off', e, c0, c1, c2⟩ := h (k + 1) (by simp; omega)
  obtain ⟨rfl, rfl⟩ : b = b' ∧ off = off' := by simpa using e
  have hh : off + (k + 1) * 3 = off + 3 + k * 3 := by omega
  rw [hh] at c0 c1 c2
  exact ⟨b, off + 3, rfl, c0, c1, c2⟩

theorem parts_if {w : World} {b off c : Nat} {l : List Prt} (h : PartsAt w (some ⟨b, off + 3, none⟩) l) (hc : l.length + 1 ≤ c) : PartsAt w (if c = 1 then some ⟨b, off, none⟩ else some ⟨b, off + 3, none⟩) l := by
  by_cases e : c = 1
  · intro k hk
    omega
  · rw [if_neg e]
    exact h

theorem Sorted.tail {x : Prt} {l : List Prt} (h : Sorted (x :: l)) : Sorted l := fun i j hi hj hij => h (i + 1) (j + 1) (by simp; omega) (by simp; omega) (by omega)

theorem cons_left {x y : Prt} {a b : List Prt} (hb : Sorted (y :: b)) (h : aheadP x y = true) : anyMeets (x :: a) (y :: b) = anyMeets a (y :: b) :=
  anyMeets_left (a := x :: a) (b := y :: b) (i := 0) (k := 0) (by simp) (by simp) hb h
theorem cons_right {x y : Prt} {a b : List Prt} (ha : Sorted (x :: a)) (h : aheadP y x = true) : anyMeets (x :: a) (y :: b) = anyMeets (x :: a) b :=
  anyMeets_right (a := x :: a) (b := y :: b) (i := 0) (k := 0) (by simp) (by simp) ha h
theorem cons_here {x y : Prt} {a b : List Prt} (h : aheadP x y = false) (h' : aheadP y x = false) : anyMeets (x :: a) (y :: b) = true :=
  anyMeets_here (a := x :: a) (b := y :: b) (i := 0) (k := 0) (by simp) (by simp) h h'

end Go.Proofs.YtijdigdcmjdooaaGreat

/- The library's contracts that Touch's proof leans on, laid at this dump in plain words. -/
namespace Go.Proofs
open Go.Shelf
end Go.Proofs

/- impl.inOrder, impl.Touch. Own work. -/
namespace Go.Proofs.YtijdigdcmjdooaaGreat
open Go.RowKit Go.Sort Go.Proofs
set_option maxHeartbeats 2000000

theorem cells_parts {w : World} {b o : Nat} {ps : List Prt} (h : PartsAt w (some ⟨b, o, none⟩) ps) : ∀ j u, (partCells ps)[j]? = some u → w.cell? ⟨b, o + j, none⟩ = some u := by
  induction ps generalizing o with
  | nil => intro j u hu; simp [partCells] at hu
  | cons x l ih =>
    intro j u hu
    obtain ⟨b', o', e, c0, c1, c2⟩ := h 0 (by simp)
    obtain ⟨rfl, rfl⟩ : b = b' ∧ o = o' := by simpa using e
    simp only [Nat.zero_mul, Nat.add_zero, List.getElem_cons_zero] at c0 c1 c2
    have hc : partCells (x :: l) = .int .i64 x.1 :: .int .i64 x.2.1 :: .int .i64 x.2.2 :: partCells l := by simp [partCells]
    rw [hc] at hu
    match j, hu with
    | 0, hu => simp at hu; subst hu; exact c0
    | 1, hu => simp at hu; subst hu; exact c1
    | 2, hu => simp at hu; subst hu; exact c2
    | j + 3, hu =>
      simp at hu
      have := ih (parts_tail h) j u hu
      rw [show o + (j + 3) = o + 3 + j by omega]
      exact this

theorem partCells_len (ps : List Prt) : (partCells ps).length = ps.length * 3 := by
  induction ps with
  | nil => rfl
  | cons x l ih => simp only [partCells, List.flatMap_cons, List.length_append, List.length_cons, List.length_nil] at ih ⊢; omega
theorem partCells_one (ps : List Prt) : ∀ u ∈ partCells ps, u.oneCell' = true := by
  intro u hu
  simp [partCells] at hu
  obtain ⟨_, _, _, _, h⟩ := hu
  rcases h with rfl | rfl | rfl <;> rfl
end Go.Proofs.YtijdigdcmjdooaaGreat

/- impl.inOrder. Own work. -/
namespace Go.Proofs.YtijdigdcmjdooaaGreat
open Go.RowKit Go.Sort Go.Proofs
set_option maxHeartbeats 2000000

theorem below_sort (w : World) (B blk n : Nat) (d : Array Prt) (os : Array Obj) (hB : B ≤ blk) (hs : B ≤ w.heap.size) : RowKit.Below B w (sortWorldK encP 3 w blk 0 n d os) := by
  refine ⟨rfl, rfl, rfl, by simp [sortWorldK, putRowK, putRow, mapBlock, grow, Sort.ahead], fun k hk => ?_⟩
  have h1 : k < w.heap.size := by omega
  have h2 : blk ≠ k := by omega
  simp [sortWorldK, putRowK, putRow, mapBlock, grow, Sort.ahead, Array.getElem?_append, h1, Array.getElem_modify, h2]

theorem parts_holds {w : World} {b : Nat} {d : Array Prt} (h : HoldsK encP 3 w b 0 d) : PartsAt w (some ⟨b, 0, none⟩) d.toList := by
  intro k hk
  have hk' : k < d.size := by simpa using hk
  have c : ∀ t, t < 3 → w.cell? ⟨b, 0 + (k * 3 + t), none⟩ = some ((encP d[k]!)[t]!) := fun t ht => by
    have h1 := (h (k * 3 + t) (by rw [size_flatK]; omega)).1
    rw [get_flatK _ _ _ _ (by omega), show (k * 3 + t) / 3 = k by omega, show (k * 3 + t) % 3 = t by omega] at h1
    exact h1
  have e : d[k]! = d[k] := getElem!_pos d k hk'
  rw [e] at c
  refine ⟨b, 0, rfl, ?_, ?_, ?_⟩
  · have := c 0 (by omega); simpa [encP] using this
  · have := c 1 (by omega); simpa [encP, Nat.add_assoc] using this
  · have := c 2 (by omega); simpa [encP, Nat.add_assoc] using this

theorem partCells_get (ps : List Prt) : ∀ k t, (hk : k < ps.length) → t < 3 → (partCells ps)[k * 3 + t]? = some ((encP ps[k])[t]!) := by
  induction ps with
  | nil => intro k t hk; simp at hk
  | cons x l ih =>
    intro k t hk ht
    have hc : partCells (x :: l) = encP x ++ partCells l := by simp [partCells, encP]
    have hl : (encP x).length = 3 := rfl
    rw [hc]
    match k, hk with
    | 0, hk =>
      rw [List.getElem?_append_left (by rw [hl]; omega)]
      simp only [Nat.zero_mul, Nat.zero_add, List.getElem_cons_zero]
      rw [List.getElem?_eq_getElem (by rw [hl]; omega), getElem!_pos (encP x) t (by rw [hl]; omega)]
    | k + 1, hk =>
      rw [List.getElem?_append_right (by rw [hl]; omega), hl, show (k + 1) * 3 + t - 3 = k * 3 + t by omega]
      rw [ih k t (by simp at hk; omega) ht]
      rfl

theorem holds_of_owns {w1 : World} {g : Nat} {cur : Array Value} {T : TypeId} {ps : List Prt} (hg : w1.heap[g]? = some (.cells cur T (0, 0))) (ht : cur.toList.take (ps.length * 3) = partCells ps) : HoldsK encP 3 w1 g 0 ps.toArray := by
  intro j hj
  rw [size_flatK] at hj
  simp at hj
  have hk : j / 3 < ps.length := by omega
  have hp := partCells_get ps (j / 3) (j % 3) hk (by omega)
  rw [show j / 3 * 3 + j % 3 = j by omega, ← ht, List.getElem?_take, if_pos (by omega)] at hp
  refine ⟨?_, by simp [World.frozen?, hg]⟩
  rw [Nat.zero_add, cell_of_row w1 g j cur T (0, 0) hg, get_flatK _ _ _ _ (by simpa using hj)]
  rw [Array.getElem?_toList] at hp
  rw [hp]
  simp only [id]
  rw [getElem!_pos ps.toArray (j / 3) (by simpa using hk)]
  simp
end Go.Proofs.YtijdigdcmjdooaaGreat

/- slices.Collect, maps.Keys, slices.SortedFunc at spots. Own work. -/
namespace Go.Proofs.YtijdigdcmjdooaaGreat
open Go.RowKit Go.Sort Go.Proofs Go.Lib Go.Maps
set_option maxHeartbeats 4000000
set_option maxRecDepth 100000

theorem owns_sortedS {w1 : World} {base g c n : Nat} {T : TypeId} {cur : Array Value} {ps : List (Int × Int × Int)} {d' : Array (Int × Int × Int)} {os : Array Obj} (hg : w1.heap[g]? = some (.cells cur T (0, 0))) (hbase : base ≤ g) (h1 : ps.length ≤ c) (h2 : c ≤ maxLen) (h3 : cur.size = c * 3) (hH : HoldsK encP 3 w1 g 0 ps.toArray) (hs : d'.size = ps.length) :
    (sortWorldK encP 3 w1 g 0 n d' os).ownsRow base T 3 (.slice (some ⟨g, 0, none⟩) ps.length c) ps.length (partCells d'.toList) := by
  have hlt : g < w1.heap.size := (Array.getElem?_eq_some_iff.1 hg).1
  have hH' := holdsK_sortWorldK_c encP 3 w1 g 0 ps.toArray d' n os hH hlt (by simpa using hs)
  have hblk : (sortWorldK encP 3 w1 g 0 n d' os).heap[g]? = some (.cells (putCells id 0 (flatK encP 3 d') cur) T (0, 0)) := by
    have e : (sortWorldK encP 3 w1 g 0 n d' os).heap = (w1.heap.modify g (onCells (putCells id 0 (flatK encP 3 d')))) ++ os := rfl
    rw [e, Array.getElem?_append_left (by simpa using hlt), Array.getElem?_modify, if_pos rfl, hg]
    rfl
  refine ⟨?_, .inr ⟨g, c, _, rfl, hbase, hblk, h1, h2, ?_, ?_⟩⟩
  · rw [partCells_len]; simp [hs]
  · simp [putCells, h3]
  · refine List.ext_getElem? fun j => ?_
    by_cases hj : j < ps.length * 3
    · have hk : j / 3 < d'.toList.length := by simp [hs]; omega
      have hp := partCells_get d'.toList (j / 3) (j % 3) hk (by omega)
      rw [show j / 3 * 3 + j % 3 = j by omega] at hp
      have hc := (hH' j (by rw [size_flatK, hs]; exact hj)).1
      rw [Nat.zero_add, cell_of_row _ g j _ T (0, 0) hblk, get_flatK _ _ _ _ (by rw [hs]; exact hj)] at hc
      rw [List.getElem?_take, if_pos hj, hp, Array.getElem?_toList, hc]
      simp only [id]
      rw [getElem!_pos d' (j / 3) (by simpa using hk)]
      simp
    · rw [List.getElem?_take, if_neg hj, List.getElem?_eq_none (by rw [partCells_len]; simp [hs]; omega)]
theorem collect_any (g : Nat) (lb : Array Value) (eg : ∀ args w, (callFunc g args).run Tryz.prog w = .ok (.enter g args) w) (S : List (Int × Int × Int) → Prop) (N : Nat) (hN : N ≤ 100000) (w : World) (hseq : SeqGives Fence.wide 8 Tryz.prog g lb spV S N w) :
    Calls Tryz.prog 60 #[.func (.func g) #[] lb] w fun e w' => ∃ (v : Value) (ss : List (Int × Int × Int)), e = .returned v ∧ S ss ∧ w'.ownsRow w.heap.size 29 3 v ss.length (partCells ss) ∧ Below w.heap.size w w' := by
  have HA := hide (appendSeq_any g lb eg S N hN w hseq)
  clear hseq eg
  go_enter Tryz.func60, Tryz.ntmps60
  go_wp2_with fail
  refine HA.out.mono ?_
  rintro e w1 ⟨v, ss, rfl, hS, hrow, hb⟩
  go_wp2_with fail
  go_ret
  exact ⟨v, ss, rfl, hS, hrow, hb⟩
theorem mapsKeys_any (b : Nat) (w : World) : Calls Tryz.prog 32 #[.map (some b)] w fun e w' => e = .returned (.func (.func 62) #[] #[.pointer (some ⟨w.heap.size, 0, none⟩)]) ∧ w' = w.alloc (.cells #[.map (some b)] 72) := by
  go_enter Tryz.func32, Tryz.ntmps32
  go_wp2_with fail
  go_ret
  exact ⟨rfl, rfl⟩
theorem sortedFunc_any (Bm b nn : Nat) (out : List (Int × Int × Int)) (hnd : out.Nodup) (hwf : ∀ s ∈ out, WfS s) (hlen : out.length ≤ 100000) (w : World) (hBm : Bm < w.heap.size) (hm : w.cell? ⟨Bm, 0, none⟩ = some (.map (some b))) (hT : TM w b nn out) :
    Calls Tryz.prog 31 #[.func (.func 62) #[] #[.pointer (some ⟨Bm, 0, none⟩)], .func (.func 33) #[] #[]] w fun e w' => ∃ v, e = .returned v ∧ w'.ownsRow w.heap.size 29 3 v (out.mergeSort leS).length (partCells (out.mergeSort leS)) ∧ Below w.heap.size w w' := by
  have eK : ∀ args w, (callFunc 62 args).run Tryz.prog w = .ok (.enter 62 args) w := enters_of Tryz.func62 (by kernel_rfl) rfl
  have HC := hide (collect_any _ _ eK _ out.length hlen w (keys_gives 8 (by omega) Bm b nn out hnd hwf w hBm hm hT))
  clear hT hm eK
  go_enter Tryz.func31, Tryz.ntmps31
  go_wp2_with fail
  refine HC.out.mono ?_
  rintro e w1 ⟨v, ss, rfl, hperm, hrow, hb1⟩
  have HPM := hide hperm
  have HB1 := hide hb1
  clear HC
  rcases hrow.2 with ⟨rfl, h0⟩ | ⟨g, c, cur, rfl, hbg, hg, hnc, hcm, hsz, htk⟩
  · have hss : ss = [] := List.eq_nil_of_length_eq_zero h0
    subst hss
    have hout : out = [] := (List.nil_perm.1 hperm)
    subst hout
    have hso := AnyF.slices_SortFunc_none Tryz.sortS none 0 (.func (.func 33) #[] #[]) w1
    change Calls Tryz.prog 61 _ _ _ at hso
    have HSO := hide hso
    clear hso hrow hperm hb1
    go_wp2_with fail
    refine HSO.out.mono ?_
    rintro e w2 ⟨rfl, rfl⟩
    go_wp2_with fail
    go_ret
    exact ⟨_, rfl, by rw [List.mergeSort_nil]; exact World.ownsRow_nil _ _ _ _, HB1.out⟩
  · have hlt : g < w1.heap.size := (Array.getElem?_eq_some_iff.1 hg).1
    have hlen2 : ss.length ≤ 100000 := by rw [hperm.length_eq]; exact hlen
    have eg : ∀ args w, (callFunc 33 args).run Tryz.prog w = .ok (.enter 33 args) w := enters_of Tryz.func33 (by kernel_rfl) rfl
    have hso := AnyQ.slices_SortFunc Tryz.sortS 3 Tryz.isAgg29 Tryz.sizeOf29 encP (fun _ => rfl) (fun x v hv => by simp [encP] at hv; rcases hv with rfl | rfl | rfl <;> rfl) bySp swoBySp 33 #[] g 0 c ss.toArray w1 eg (cmpLaysS g 0 ss.toArray.size w1) (holds_of_owns hg htk) hlt (by simp; omega)
    change Calls Tryz.prog 61 _ _ _ at hso
    rw [List.size_toArray] at hso
    have HSO := hide hso
    have HH := hide (holds_of_owns (ps := ss) hg htk)
    have HG := hide hg
    have HSZ := hide hsz
    clear hso hrow htk hg hsz hb1 eg hperm
    go_wp2_with fail
    refine HSO.out.mono ?_
    rintro e w2 ⟨rfl, d', n, os, hpm, hsd, rfl⟩
    have hsz : d'.size = ss.length := by have := hpm.1; simpa using this
    have HP := hide (show ss.Perm d'.toList by
      have h := permS_of (d := ss.toArray) (d' := d') (by simpa using hpm)
      simpa using h)
    have HS := hide (sortedS_of (d := d') (by rw [hsz]; exact hsd))
    have HA := hide (owns_sortedS (n := n) (os := os) HG.out hbg hnc hcm HSZ.out HH.out hsz)
    have HB := hide (HB1.out.trans (below_sort w1 w.heap.size g n d' os hbg HB1.out.size))
    have HEQ := hide (sorted_one (HP.out.symm.trans HPM.out) HS.out)
    clear hpm hsd HSO
    go_wp2_with fail
    go_ret
    refine ⟨_, rfl, ?_, HB.out⟩
    rw [← HEQ.out]
    have hl2 : d'.toList.length = ss.length := by simpa using hsz
    rw [hl2]
    exact HA.out
end Go.Proofs.YtijdigdcmjdooaaGreat

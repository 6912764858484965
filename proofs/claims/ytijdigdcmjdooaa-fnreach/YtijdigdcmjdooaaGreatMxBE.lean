/- bySpot, and the order of spots as the library's sort asks for it. Own work. -/
import Derived.Test.YtijdigdcmjdooaaGreatMxAO
import Derived.Test.YtijdigdcmjdooaaGreatMxAN
import Derived.Shelf.SlSortCmp.WholeK
import Derived.Shelf.SlSortCmp.NoneTotal
import Derived.Test.YtijdigdcmjdooaaGreatProg
import Derived.Test.YtijdigdcmjdooaaGreatMxAD
import Derived.Test.YtijdigdcmjdooaaGreatMxAH
namespace Go.Proofs.YtijdigdcmjdooaaGreat
open Go.RowKit Go.Sort Go.Proofs
set_option maxHeartbeats 2000000

def or3 (x y z : Int) : Int := if x = 0 then (if y = 0 then z else y) else x
theorem or3_any (b c : Nat) (x y z : Int) (w : World) (h0 : w.cell? ⟨b, 0, none⟩ = some (.int .i64 x)) (h1 : w.cell? ⟨b, 1, none⟩ = some (.int .i64 y)) (h2 : w.cell? ⟨b, 2, none⟩ = some (.int .i64 z)) :
    Calls Tryz.prog 63 #[.slice (some ⟨b, 0, none⟩) 3 c] w fun e w' => e = .returned (.int .i64 (or3 x y z)) ∧ w = w' := by
  go_enter Tryz.func63, Tryz.ntmps63
  go_wp2_with fail
  go_loop [5, 8] (fun _ i => ∃ k : Nat, k ≤ 3 ∧ i = .int .i64 k ∧ (1 ≤ k → x = 0) ∧ (2 ≤ k → y = 0) ∧ (3 ≤ k → z = 0)) (fun _ i => 3 - (intOf i).toNat)
  case atStart => exact ⟨0, by omega, rfl, by omega, by omega, by omega⟩
  case round =>
    obtain ⟨k, hk, rfl, hx, hy, hz'⟩ := hrel
    have hkk : k = 0 ∨ k = 1 ∨ k = 2 ∨ k = 3 := by omega
    rcases hkk with rfl | rfl | rfl | rfl
    · by_cases hz : x = 0
      · subst hz
        clear hx hy hz'
        go_wp2_with fail
        exact ⟨⟨1, by omega, rfl, fun _ => (by first | trivial | rfl), by omega, by omega⟩, by simp [intOf]⟩
      · have q : (x != 0) = true := by rw [bne_iff_ne]; exact hz
        have HR := hide (show or3 x y z = x by simp [or3, hz])
        clear hz hx hy hz'
        go_wp2_with fail
        go_ret
        exact ⟨ret_i HR.out.symm, rfl⟩
    · have hx0 := hx (by omega)
      subst hx0
      clear hx hy hz'
      by_cases hz : y = 0
      · subst hz
        go_wp2_with fail
        exact ⟨⟨2, by omega, rfl, fun _ => (by first | trivial | rfl), fun _ => (by first | trivial | rfl), by omega⟩, by simp [intOf]⟩
      · have q : (y != 0) = true := by rw [bne_iff_ne]; exact hz
        have HR := hide (show or3 0 y z = y by simp [or3, hz])
        clear hz
        go_wp2_with fail
        go_ret
        exact ⟨ret_i HR.out.symm, rfl⟩
    · have hx0 := hx (by omega)
      have hy0 := hy (by omega)
      subst hx0
      subst hy0
      clear hx hy hz'
      by_cases hz : z = 0
      · subst hz
        go_wp2_with fail
        exact ⟨⟨3, by omega, rfl, fun _ => (by first | trivial | rfl), fun _ => (by first | trivial | rfl), fun _ => (by first | trivial | rfl)⟩, by simp [intOf]⟩
      · have q : (z != 0) = true := by rw [bne_iff_ne]; exact hz
        have HR := hide (show or3 0 0 z = z by simp [or3])
        clear hz
        go_wp2_with fail
        go_ret
        exact ⟨ret_i HR.out.symm, rfl⟩
    · have hx0 := hx (by omega)
      have hy0 := hy (by omega)
      have hz0 := hz' (by omega)
      subst hx0
      subst hy0
      subst hz0
      clear hx hy hz'
      go_wp2_with fail
      go_ret
      exact ⟨ret_i (by simp [or3]), rfl⟩
/-- What bySpot answers. -/
def bySp (x y : Int × Int × Int) : Int := or3 (cmpI x.1 y.1) (cmpI x.2.1 y.2.1) (cmpI x.2.2 y.2.2)

abbrev BR (W wx : World) (x y : Int × Int × Int) : Prop := (wx.cell? ⟨W.heap.size, 0, none⟩ = some (.int .i64 x.1) ∧ wx.cell? ⟨W.heap.size, 1, none⟩ = some (.int .i64 x.2.1) ∧ wx.cell? ⟨W.heap.size, 2, none⟩ = some (.int .i64 x.2.2) ∧ wx.cell? ⟨W.heap.size + 1, 0, none⟩ = some (.int .i64 y.1) ∧ wx.cell? ⟨W.heap.size + 1, 1, none⟩ = some (.int .i64 y.2.1) ∧ wx.cell? ⟨W.heap.size + 1, 2, none⟩ = some (.int .i64 y.2.2)) ∧ Hid (∃ q os', wx = grow (W.drewN q) os')
theorem BR.alloc {W wx : World} {x y : Int × Int × Int} (h : BR W wx x y) (o : Obj) : BR W (wx.alloc o) x y := by
  have hb := (Below.refl wx.heap.size wx).alloc (Nat.le_refl _) o
  refine ⟨⟨cell_later' hb h.1.1, cell_later' hb h.1.2.1, cell_later' hb h.1.2.2.1, cell_later' hb h.1.2.2.2.1, cell_later' hb h.1.2.2.2.2.1, cell_later' hb h.1.2.2.2.2.2⟩, ?_⟩
  obtain ⟨q, os', e⟩ := h.2.out
  exact ⟨q, os' ++ #[o], by rw [e, alloc_eq_grow, grow_grow]⟩
theorem BR.alloc_d {W wx : World} {x y : Int × Int × Int} (h : BR W wx.drew x y) (o : Obj) : BR W (wx.alloc o).drew x y := h.alloc o

theorem bySpot_any (x y : Int × Int × Int) (W : World) :
    Calls Tryz.prog 33 #[.agg #[.int .i64 x.1, .int .i64 x.2.1, .int .i64 x.2.2], .agg #[.int .i64 y.1, .int .i64 y.2.1, .int .i64 y.2.2]] W fun e w' => e = .returned (.int .i64 (bySp x y)) ∧ ∃ q os', w' = grow (W.drewN q) os' := by
  obtain ⟨x0, x1, x2⟩ := x
  obtain ⟨y0, y1, y2⟩ := y
  have hBG : BR W ((W.alloc (.cells #[.int .i64 x0, .int .i64 x1, .int .i64 x2] 29)).alloc (.cells #[.int .i64 y0, .int .i64 y1, .int .i64 y2] 29)).drew (x0, x1, x2) (y0, y1, y2) :=
    ⟨⟨by simp [go_sem], by simp [go_sem], by simp [go_sem], by simp [go_sem], by simp [go_sem], by simp [go_sem]⟩, 1, #[_] ++ #[_], by rw [alloc_eq_grow, alloc_eq_grow, grow_grow]; rfl⟩
  have HBG := hide hBG
  clear hBG
  go_enter Tryz.func33, Tryz.ntmps33
  go_upto_region 1 with fail
  generalize ((W.alloc (.cells #[.int .i64 x0, .int .i64 x1, .int .i64 x2] 29)).alloc (.cells #[.int .i64 y0, .int .i64 y1, .int .i64 y2] 29)) = w1 at *
  go_region_held3 (fun wx => BR W wx (x0, x1, x2) (y0, y1, y2))
    (first
      | (with_reducible exact HBG.out)
      | (with_reducible assumption)
      | (with_reducible exact BR.alloc (by assumption) _)
      | (with_reducible exact BR.alloc_d HBG.out _))
    (first
      | (go_at_call 64; refine (compare_any _ _ _).mono ?_; rintro e w2 ⟨rfl, rfl⟩)
      | (go_at_call 63; refine (or3_any w1.heap.size _ (cmpI x0 y0) (cmpI x1 y1) (cmpI x2 y2) (w1.alloc (.cells #[.int .i64 (cmpI x0 y0), .int .i64 (cmpI x1 y1), .int .i64 (cmpI x2 y2)] 3)).drew (new_cell w1 #[.int .i64 (cmpI x0 y0), .int .i64 (cmpI x1 y1), .int .i64 (cmpI x2 y2)] 3 0 _ rfl) (new_cell w1 #[.int .i64 (cmpI x0 y0), .int .i64 (cmpI x1 y1), .int .i64 (cmpI x2 y2)] 3 1 _ rfl) (new_cell w1 #[.int .i64 (cmpI x0 y0), .int .i64 (cmpI x1 y1), .int .i64 (cmpI x2 y2)] 3 2 _ rfl)).mono ?_; rintro e w2 ⟨rfl, rfl⟩))
  all_goals
    rename_i hH
    have HH := hide hH
    clear hH
    go_wp2_with fail
    go_ret
    exact ⟨rfl, HH.out.2.out⟩

theorem ltBySp (x y : Int × Int × Int) : ltOf bySp x y = ltS x y := by
  rw [Bool.eq_iff_iff, ltS_iff]
  unfold ltOf bySp or3 cmpI
  rw [decide_eq_true_eq]
  split <;> (try split) <;> (try split) <;> (try split) <;> (try split) <;> (try split) <;> (try split) <;> omega
theorem swoBySp : SWO (ltOf bySp) where
  irrefl x := by
    rw [ltBySp, Bool.eq_false_iff, Ne, ltS_iff]
    omega
  trans x y z h1 h2 := by
    rw [ltBySp, ltS_iff] at *
    omega
  ntrans x y z h1 h2 := by
    rw [ltBySp, Bool.eq_false_iff, Ne, ltS_iff] at *
    omega
/-- A spot's three cells. -/
def encS (x : Int × Int × Int) : List Value := [.int .i64 x.1, .int .i64 x.2.1, .int .i64 x.2.2]
theorem cmpLaysS (blk off size : Nat) (w : World) : CmpLays Tryz.prog 33 #[] encS 3 bySp blk off size w :=
  fun _ _ _ _ x y => bySpot_any x y _
theorem sortedS_of {d : Array (Int × Int × Int)} (h : SortedIn (ltOf bySp) 0 d.size d) : d.toList.Pairwise (fun a b => leS a b = true) := by
  rw [List.pairwise_iff_getElem]
  intro i j hi hj hij
  simp at hi hj
  simp only [Array.getElem_toList]
  have h' := h i j (Nat.zero_le _) (by omega) hj
  rw [ltBySp, getElem!_pos d j hj, getElem!_pos d i hi] at h'
  unfold leS
  rw [h']
  rfl
theorem permS_of {d d' : Array (Int × Int × Int)} (h : PermIn 0 d.size d d') : d.toList.Perm d'.toList := by
  have h2 := h.2.2
  have e1 : d.extract 0 d.size = d := by simp
  have e2 : d'.extract 0 d.size = d' := by rw [← h.1]; simp
  rw [e1, e2] at h2
  exact h2.symm
end Go.Proofs.YtijdigdcmjdooaaGreat

/- SortFunc at spots, laid at this dump in plain words. -/
namespace Go.Proofs
open Go.Shelf
def Tryz.sortS_ren : Go.Shelf.Ren := ⟨fun | 6 => 61 | 15 => 93 | 14 => 92 | 28 => 122 | 29 => 123 | 20 => 114 | 21 => 115 | 22 => 116 | 23 => 117 | 24 => 118 | 25 => 119 | 26 => 120 | 27 => 121 | 46 => 136 | 47 => 137 | 48 => 138 | 49 => 139 | 50 => 140 | 57 => 147 | n => n, fun | 22 => 32 | 24 => 29 | 25 => 84 | 3 => 3 | 39 => 154 | 0 => 0 | 53 => 205 | 55 => 59 | 4 => 4 | 46 => 198 | 45 => 197 | 50 => 202 | 5 => 5 | 9 => 9 | 66 => 223 | 70 => 227 | 76 => 232 | 77 => 89 | n => n, fun | n => n⟩
theorem Tryz.sortS : Go.Proofs.SlLaysF0.n6 Tryz.prog Tryz.sortS_ren := {
  mixed := by kernel_rfl
  f6 := ⟨Tryz.f61.name, by decide, Tryz.func61.trans (congrArg some (by kernel_rfl))⟩
  f14 := ⟨Tryz.f92.name, by decide, Tryz.func92.trans (congrArg some (by kernel_rfl))⟩
  f15 := Tryz.func93.trans (congrArg some (by kernel_rfl))
  f20 := ⟨Tryz.f114.name, by decide, Tryz.func114.trans (congrArg some (by kernel_rfl))⟩
  f21 := ⟨Tryz.f115.name, by decide, Tryz.func115.trans (congrArg some (by kernel_rfl))⟩
  f22 := ⟨Tryz.f116.name, by decide, Tryz.func116.trans (congrArg some (by kernel_rfl))⟩
  f23 := ⟨Tryz.f117.name, by decide, Tryz.func117.trans (congrArg some (by kernel_rfl))⟩
  f24 := ⟨Tryz.f118.name, by decide, Tryz.func118.trans (congrArg some (by kernel_rfl))⟩
  f25 := ⟨Tryz.f119.name, by decide, Tryz.func119.trans (congrArg some (by kernel_rfl))⟩
  f26 := ⟨Tryz.f120.name, by decide, Tryz.func120.trans (congrArg some (by kernel_rfl))⟩
  f27 := ⟨Tryz.f121.name, by decide, Tryz.func121.trans (congrArg some (by kernel_rfl))⟩
  f28 := Tryz.func122.trans (congrArg some (by kernel_rfl))
  f29 := Tryz.func123.trans (congrArg some (by kernel_rfl))
  f46 := ⟨Tryz.f136.name, by decide, Tryz.func136.trans (congrArg some (by kernel_rfl))⟩
  f47 := Tryz.func137.trans (congrArg some (by kernel_rfl))
  f48 := Tryz.func138.trans (congrArg some (by kernel_rfl))
  f49 := ⟨Tryz.f139.name, by decide, Tryz.func139.trans (congrArg some (by kernel_rfl))⟩
  f50 := ⟨Tryz.f140.name, by decide, Tryz.func140.trans (congrArg some (by kernel_rfl))⟩
  f57 := ⟨Tryz.f147.name, by decide, Tryz.func147.trans (congrArg some (by kernel_rfl))⟩
  t0 := Tryz.underlying0
  a0 := Tryz.isAgg0
  z0 := Tryz.sizeOf0
  v0 := Tryz.zeroValue0
  t3 := Tryz.underlying3
  a3 := Tryz.isAgg3
  z3 := Tryz.sizeOf3
  v3 := Tryz.zeroValue3
  t4 := Tryz.underlying4
  a4 := Tryz.isAgg4
  z4 := Tryz.sizeOf4
  v4 := Tryz.zeroValue4
  t5 := Tryz.underlying5
  a5 := Tryz.isAgg5
  z5 := Tryz.sizeOf5
  v5 := Tryz.zeroValue5
  t9 := Tryz.underlying9
  a9 := Tryz.isAgg9
  z9 := Tryz.sizeOf9
  v9 := Tryz.zeroValue9
  t22 := Tryz.underlying32
  a22 := Tryz.isAgg32
  z22 := Tryz.sizeOf32
  v22 := Tryz.zeroValue32
  t25 := Tryz.underlying84
  a25 := Tryz.isAgg84
  z25 := Tryz.sizeOf84
  v25 := Tryz.zeroValue84
  t39 := Tryz.underlying154
  a39 := Tryz.isAgg154
  z39 := Tryz.sizeOf154
  v39 := Tryz.zeroValue154
  t45 := Tryz.underlying197
  a45 := Tryz.isAgg197
  z45 := Tryz.sizeOf197
  v45 := Tryz.zeroValue197
  t46 := Tryz.underlying198
  a46 := Tryz.isAgg198
  z46 := Tryz.sizeOf198
  v46 := Tryz.zeroValue198
  t50 := Tryz.underlying202
  a50 := Tryz.isAgg202
  z50 := Tryz.sizeOf202
  v50 := Tryz.zeroValue202
  t53 := Tryz.underlying205
  a53 := Tryz.isAgg205
  z53 := Tryz.sizeOf205
  v53 := Tryz.zeroValue205
  t55 := Tryz.underlying59
  a55 := Tryz.isAgg59
  z55 := Tryz.sizeOf59
  v55 := Tryz.zeroValue59
  t66 := Tryz.underlying223
  a66 := Tryz.isAgg223
  z66 := Tryz.sizeOf223
  v66 := Tryz.zeroValue223
  t70 := Tryz.underlying227
  a70 := Tryz.isAgg227
  z70 := Tryz.sizeOf227
  v70 := Tryz.zeroValue227
  t76 := Tryz.underlying232
  a76 := Tryz.isAgg232
  z76 := Tryz.sizeOf232
  v76 := Tryz.zeroValue232
  t77 := Tryz.underlying89
  a77 := Tryz.isAgg89
  z77 := Tryz.sizeOf89
  v77 := Tryz.zeroValue89 }
end Go.Proofs

/- The order of parts as the library's sort asks for it. Own work. -/
namespace Go.Proofs.YtijdigdcmjdooaaGreat
open Go.RowKit Go.Sort Go.Proofs
set_option maxHeartbeats 1000000

theorem ltByP (x y : Prt) : ltOf byP x y = decide (x.1 < y.1 ∨ (x.1 = y.1 ∧ x.2.1 < y.2.1)) := by
  unfold ltOf byP or2 cmpI
  rw [Bool.eq_iff_iff, decide_eq_true_eq, decide_eq_true_eq]
  split <;> (try split) <;> (try split) <;> (try split) <;> omega

theorem swoByP : SWO (ltOf byP) where
  irrefl x := by rw [ltByP]; simp
  trans x y z h1 h2 := by
    rw [ltByP, decide_eq_true_eq] at *
    omega
  ntrans x y z h1 h2 := by
    rw [ltByP, decide_eq_false_iff_not] at *
    omega

/-- A part's three cells. -/
def encP (x : Prt) : List Value := [.int .i64 x.1, .int .i64 x.2.1, .int .i64 x.2.2]

theorem sorted_of {d : Array Prt} (h : SortedIn (ltOf byP) 0 d.size d) : Sorted d.toList := by
  intro i j hi hj hij
  simp at hi hj
  simp only [Array.getElem_toList]
  by_cases e : i = j
  · subst e
    right
    omega
  · have h' := h i j (Nat.zero_le _) (by omega) hj
    rw [ltByP, decide_eq_false_iff_not, getElem!_pos d j hj, getElem!_pos d i hi] at h'
    unfold leP
    omega

theorem perm_of {d d' : Array Prt} (h : PermIn 0 d.size d d') : d.toList.Perm d'.toList := by
  have h2 := h.2.2
  have e1 : d.extract 0 d.size = d := by simp
  have e2 : d'.extract 0 d.size = d' := by rw [← h.1]; simp
  rw [e1, e2] at h2
  exact h2.symm
end Go.Proofs.YtijdigdcmjdooaaGreat

/- The laws FnExactPartsLen and FnExactTouch: their walks, over whatever impl answers as it should. Own work. -/
namespace Go.Proofs.YtijdigdcmjdooaaGreat
open Go.RowKit
set_option maxHeartbeats 2000000

theorem info_Part : (Tryz.prog.info? 214).map (fun i => (i.zero, i.size, i.bytes)) = some (some (.agg #[.int .i64 0, .int .i64 0, .int .i64 0]), 3, 24) := by kernel_rfl

def WfP (ps : List Prt) : Prop := ∀ p ∈ ps, (Lit.int .i64 p.1).wf = true ∧ (Lit.int .i64 p.2.1).wf = true ∧ (Lit.int .i64 p.2.2).wf = true
theorem chnP {a b c : World} (h : Below a.heap.size a b) (k : Below b.heap.size b c) : Below a.heap.size a c := h.trans (k.mono h.size)

end Go.Proofs.YtijdigdcmjdooaaGreat

/- impl.PartsLen. Own work. -/
namespace Go.Proofs.YtijdigdcmjdooaaGreat
open Go.RowKit
set_option maxHeartbeats 2000000

theorem inRange_c {x a b : Int} {r : Bool} (h : inR x a b = r) (w : World) : Calls Tryz.prog 26 #[.int .i64 x, .int .i64 a, .int .i64 b] w fun e w' =>
    e = .returned (.bool r) ∧ w = w' := (inRange_any x a b w).mono fun _ _ h' => ⟨by rw [h'.1, h], h'.2⟩

end Go.Proofs.YtijdigdcmjdooaaGreat

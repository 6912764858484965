import Derived.Test.YtokhbnlpifmjkaaDoorSz
import Derived.Deep.OwnRows
namespace Go.Proofs.YtokhbnlpifmjkaaDoor
open Go.RowKit
set_option maxHeartbeats 400000

theorem run_make_rows {P : Program} (t e : TypeId) (z : Value) (s bytes : Nat) (ht : P.underlying t = some (.slice e)) (hinfo : (P.info? e).map (fun i => (i.zero, i.size, i.bytes)) = some (some z, s, bytes))
    (n : Nat) (hbytes : bytes * n ≤ 281474976710656) (h63 : n ≤ 9223372036854775807) (w : World) :
    (Instr.makeSlice t (.int .i64 (n : Int)) (.int .i64 (n : Int))).run P w = .ok (.slice (some ⟨w.heap.size, 0, none⟩) n n) (w.alloc (.cells (madeCells z.cells (n * s)) e)) := by
  obtain ⟨i, hi, hzz⟩ := Option.map_eq_some_iff.1 hinfo
  simp only [Prod.mk.injEq] at hzz
  obtain ⟨hz, hs, hb⟩ := hzz
  subst hs; subst hb
  have hb' : (i.bytes : Int) * (n : Int) ≤ 281474976710656 := by
    have h : ((i.bytes * n : Nat) : Int) ≤ 281474976710656 := by omega
    rwa [Int.natCast_mul] at h
  have hr := run_make (P := P) w t e i z ht hi hz .i64 .i64 n n (by omega) (Int.le_refl _) hb' (by omega)
  simp only [Int.toNat_natCast] at hr
  exact hr

theorem rowIs_made' (w : World) (z : Array Value) (n : Nat) (t : TypeId) : ∃ f, (w.alloc (.cells (madeCells z n) t)).rowIs w.heap.size t n f := by
  have h := World.rowIs_alloc w (madeCells z n) t (fun i => (madeCells z n)[i]!) (by intro i hi; simp [hi])
  rw [size_madeCells] at h
  exact ⟨_, h⟩

/-- An own row, what it holds not told. -/
def Row (w : World) (b : Nat) (t : TypeId) (n : Nat) : Prop := ∃ f, w.rowIs b t n f

theorem Row.later {w w' : World} {b t n} (h : Row w b t n) (hb : Below w.heap.size w w') : Row w' b t n := by
  obtain ⟨f, hf⟩ := h
  exact ⟨f, hf.of_block (hb.block b hf.lt)⟩

theorem toPiece_any (p : Pc) (w : World) :
    Calls Tryd.prog 25 #[.agg #[.string p.name, .int .i64 p.len, .int .i64 p.speed, .int .i64 p.brake]] w fun e w' =>
    e = .returned (.agg #[.string p.name, .int .i64 p.len, .int .i64 p.speed, .int .i64 p.brake]) ∧ Below w.heap.size w w' := by
  go_enter Tryd.func25, Tryd.ntmps25
  go_wp2
  exact bodyPost_ret (v := .agg #[.string p.name, .int .i64 p.len, .int .i64 p.speed, .int .i64 p.brake]) (by simp [results, Tryd.results25, go_sem]) rfl ⟨rfl, (((Below.refl _ _).alloc (Nat.le_refl _) _).alloc (by simp) _).alloc (by simp; omega) _⟩

theorem toEnd_any (p s : Int) (w : World) :
    Calls Tryd.prog 56 #[.agg #[.int .i64 p, .int .i64 s]] w fun e w' =>
    e = .returned (.agg #[.int .i64 p, .int .i64 s]) ∧ Below w.heap.size w w' := by
  go_enter Tryd.func56, Tryd.ntmps56
  go_wp2
  exact bodyPost_ret (v := .agg #[.int .i64 p, .int .i64 s]) (by simp [results, Tryd.results56, go_sem]) rfl ⟨rfl, (((Below.refl _ _).alloc (Nat.le_refl _) _).alloc (by simp) _).alloc (by simp; omega) _⟩

theorem info_Piece : (Tryd.prog.info? 39).map (fun i => (i.zero, i.size, i.bytes)) = some (some (.agg #[.string ⟨#[]⟩, .int .i64 0, .int .i64 0, .int .i64 0]), 4, 40) := by kernel_rfl
theorem info_End : (Tryd.prog.info? 46).map (fun i => (i.zero, i.size, i.bytes)) = some (some (.agg #[.int .i64 0, .int .i64 0]), 2, 16) := by kernel_rfl
theorem info_Joint : (Tryd.prog.info? 43).map (fun i => (i.zero, i.size, i.bytes)) = some (some (.agg #[.int .i64 0, .string ⟨#[]⟩, .slice none 0 0]), 3, 48) := by kernel_rfl

theorem toEndS_any (a : Option Addr) (es : List (Int × Int)) (cap : Nat) (w : World) (hn : es.length ≤ 1048576) (hp : EndsAt w a es) :
    Calls Tryd.prog 45 #[.slice a es.length cap] w fun e w' =>
    e = .returned (.slice (some ⟨w.heap.size, 0, none⟩) es.length es.length) ∧ Row w' w.heap.size 46 (es.length * 2) ∧ EndsAt w' (some ⟨w.heap.size, 0, none⟩) es ∧ Below w.heap.size w w' := by
  have HP := hide hp
  clear hp
  have hmk := run_make_rows (P := Tryd.prog) 41 46 _ _ _ Tryd.underlying41 info_End es.length (by omega) (by omega)
  go_enter Tryd.func45, Tryd.ntmps45
  go_wp2
  go_loopw [4] (fun i wr => ∃ (k : Nat) (f : Nat → Value), k ≤ es.length ∧ i = .int .i64 k ∧ wr.rowIs w.heap.size 46 (es.length * 2) f ∧ (∀ j (_ : j < k) (hj : j < es.length), f (j * 2) = .int .i64 es[j].1 ∧ f (j * 2 + 1) = .int .i64 es[j].2) ∧ Below w.heap.size w wr) (fun i _ => es.length - (intOf i).toNat)
  case atStart =>
    obtain ⟨f, hf⟩ := rowIs_made' w #[.int .i64 0, .int .i64 0] (es.length * 2) 46
    exact ⟨0, f, Nat.zero_le _, rfl, hf, by intro j hj; omega, (Below.refl _ _).alloc (Nat.le_refl _) _⟩
  case round =>
    obtain ⟨k, f, hk, rfl, hf, hfs, hb⟩ := hrel
    have HF := hide hf
    have HFS := hide hfs
    clear hf hfs hmk
    by_cases hlt : k < es.length
    · obtain ⟨b, off, rfl, c0, c1⟩ := (EndsAt.later HP.out hb) k hlt
      go_wp2_with fail
      refine (toEnd_any _ _ _).mono ?_
      rintro e w1 ⟨rfl, hb1⟩
      have hb2 := hb.trans (hb1.mono hb.size)
      have hf1 := HF.out.of_block (hb1.block _ HF.out.lt)
      have d0 := hf1.cell (i := k * 2) (by omega)
      have d1 := hf1.cell (i := k * 2 + 1) (by omega)
      have z0 := hf1.frozen (k * 2)
      have z1 := hf1.frozen (k * 2 + 1)
      have HF1 := hide hf1
      clear hf1
      go_wp2_with fail
      go_roundw
      case rel =>
        refine ⟨k + 1, _, by omega, by go_num, (HF1.out.set _ _).set _ _, ?_, (hb2.setCell (by simp) _).setCell (by simp) _⟩
        intro j hj hj'
        rcases Nat.lt_succ_iff_lt_or_eq.mp hj with h | h
        · have := HFS.out j h hj'
          constructor
          · rw [if_neg (by omega), if_neg (by omega)]; exact this.1
          · rw [if_neg (by omega), if_neg (by omega)]; exact this.2
        · subst h
          constructor
          · rw [if_neg (by omega), if_pos rfl]
          · rw [if_pos rfl]
      case measure => simp [intOf]; omega
    · go_wp2_with fail
      go_ret
      refine ⟨rfl, ⟨f, HF.out⟩, ?_, hb⟩
      intro j hj
      have := HFS.out j (by omega) hj
      refine ⟨_, 0, rfl, ?_, ?_⟩
      · rw [Nat.zero_add, HF.out.cell (by omega), this.1]
      · rw [Nat.zero_add, HF.out.cell (by omega), this.2]

theorem toPieceS_any (a : Option Addr) (ps : List Pc) (cap : Nat) (w : World) (hn : ps.length ≤ 1048576) (hp : PcsAt w a ps) :
    Calls Tryd.prog 13 #[.slice a ps.length cap] w fun e w' =>
    e = .returned (.slice (some ⟨w.heap.size, 0, none⟩) ps.length ps.length) ∧ Row w' w.heap.size 39 (ps.length * 4) ∧ PcsAt w' (some ⟨w.heap.size, 0, none⟩) ps ∧ Below w.heap.size w w' := by
  have HP := hide hp
  clear hp
  have hmk := run_make_rows (P := Tryd.prog) 28 39 _ _ _ Tryd.underlying28 info_Piece ps.length (by omega) (by omega)
  go_enter Tryd.func13, Tryd.ntmps13
  go_wp2
  go_loopw [4] (fun i wr => ∃ (k : Nat) (f : Nat → Value), k ≤ ps.length ∧ i = .int .i64 k ∧ wr.rowIs w.heap.size 39 (ps.length * 4) f ∧ (∀ j (_ : j < k) (hj : j < ps.length), f (j * 4) = .string ps[j].name ∧ f (j * 4 + 1) = .int .i64 ps[j].len ∧ f (j * 4 + 2) = .int .i64 ps[j].speed ∧ f (j * 4 + 3) = .int .i64 ps[j].brake) ∧ Below w.heap.size w wr) (fun i _ => ps.length - (intOf i).toNat)
  case atStart =>
    obtain ⟨f, hf⟩ := rowIs_made' w #[.string ⟨#[]⟩, .int .i64 0, .int .i64 0, .int .i64 0] (ps.length * 4) 39
    exact ⟨0, f, Nat.zero_le _, rfl, hf, by intro j hj; omega, (Below.refl _ _).alloc (Nat.le_refl _) _⟩
  case round =>
    obtain ⟨k, f, hk, rfl, hf, hfs, hb⟩ := hrel
    have HF := hide hf
    have HFS := hide hfs
    clear hf hfs hmk
    by_cases hlt : k < ps.length
    · obtain ⟨b, off, rfl, c0, c1, c2, c3⟩ := (PcsAt.later HP.out hb) k hlt
      go_wp2_with fail
      refine (toPiece_any ps[k] _).mono ?_
      rintro e w1 ⟨rfl, hb1⟩
      have hb2 := hb.trans (hb1.mono hb.size)
      have hf1 := HF.out.of_block (hb1.block _ HF.out.lt)
      have d0 := hf1.cell (i := k * 4) (by omega)
      have d1 := hf1.cell (i := k * 4 + 1) (by omega)
      have d2 := hf1.cell (i := k * 4 + 2) (by omega)
      have d3 := hf1.cell (i := k * 4 + 3) (by omega)
      have z0 := hf1.frozen (k * 4)
      have z1 := hf1.frozen (k * 4 + 1)
      have z2 := hf1.frozen (k * 4 + 2)
      have z3 := hf1.frozen (k * 4 + 3)
      have HF1 := hide hf1
      clear hf1
      go_wp2_with fail
      go_roundw
      case rel =>
        refine ⟨k + 1, _, by omega, by go_num, (((HF1.out.set _ _).set _ _).set _ _).set _ _, ?_, (((hb2.setCell (by simp) _).setCell (by simp) _).setCell (by simp) _).setCell (by simp) _⟩
        intro j hj hj'
        rcases Nat.lt_succ_iff_lt_or_eq.mp hj with h | h
        · have := HFS.out j h hj'
          refine ⟨?_, ?_, ?_, ?_⟩
          · rw [if_neg (by omega), if_neg (by omega), if_neg (by omega), if_neg (by omega)]; exact this.1
          · rw [if_neg (by omega), if_neg (by omega), if_neg (by omega), if_neg (by omega)]; exact this.2.1
          · rw [if_neg (by omega), if_neg (by omega), if_neg (by omega), if_neg (by omega)]; exact this.2.2.1
          · rw [if_neg (by omega), if_neg (by omega), if_neg (by omega), if_neg (by omega)]; exact this.2.2.2
        · subst h
          refine ⟨?_, ?_, ?_, ?_⟩
          · rw [if_neg (by omega), if_neg (by omega), if_neg (by omega), if_pos rfl]
          · rw [if_neg (by omega), if_neg (by omega), if_pos rfl]
          · rw [if_neg (by omega), if_pos rfl]
          · rw [if_pos rfl]
      case measure => simp [intOf]; omega
    · go_wp2_with fail
      go_ret
      refine ⟨rfl, ⟨f, HF.out⟩, ?_, hb⟩
      intro j hj
      have := HFS.out j (by omega) hj
      refine ⟨_, 0, rfl, ?_, ?_, ?_, ?_⟩
      · rw [Nat.zero_add, HF.out.cell (by omega), this.1]
      · rw [Nat.zero_add, HF.out.cell (by omega), this.2.1]
      · rw [Nat.zero_add, HF.out.cell (by omega), this.2.2.1]
      · rw [Nat.zero_add, HF.out.cell (by omega), this.2.2.2]

/-- Joints that a call has made: their row, and behind it a row of ends for each. -/
def JtsOwn (w : World) (B : Nat) (js : List Jt) : Prop :=
  Row w B 43 (js.length * 3) ∧ ∀ k (_ : k < js.length), ∃ b, B < b ∧ w.cell? ⟨B, k * 3, none⟩ = some (.int .i64 js[k].kind) ∧ w.cell? ⟨B, k * 3 + 1, none⟩ = some (.string js[k].name) ∧ w.cell? ⟨B, k * 3 + 2, none⟩ = some (.slice (some ⟨b, 0, none⟩) js[k].ends.length js[k].ends.length) ∧ Row w b 46 (js[k].ends.length * 2) ∧ EndsAt w (some ⟨b, 0, none⟩) js[k].ends

theorem JtsOwn.at {w B js} (h : JtsOwn w B js) : JtsAt w (some ⟨B, 0, none⟩) js := by
  intro k hk
  obtain ⟨b, _, h1, h2, h3, _, h5⟩ := h.2 k hk
  exact ⟨B, 0, _, _, rfl, by rw [Nat.zero_add]; exact h1, by rw [Nat.zero_add]; exact h2, by rw [Nat.zero_add]; exact h3, h5⟩

theorem EndsAt.setOther {w : World} {b : Nat} {es} (h : EndsAt w (some ⟨b, 0, none⟩) es) {B o : Nat} (hne : b ≠ B) (v : Value) : EndsAt (w.setCell ⟨B, o, none⟩ v) (some ⟨b, 0, none⟩) es := by
  intro k hk
  obtain ⟨b', off, ha, h1, h2⟩ := h k hk
  obtain ⟨rfl, rfl⟩ : b = b' ∧ 0 = off := by simpa using ha
  refine ⟨b, 0, rfl, ?_, ?_⟩
  · rw [World.cell?_of_block (w := w) (w' := w.setCell ⟨B, o, none⟩ v) (a := ⟨b, 0 + k * 2, none⟩) (Below.heap_setCell _ _ _ _ hne)]; exact h1
  · rw [World.cell?_of_block (w := w) (w' := w.setCell ⟨B, o, none⟩ v) (a := ⟨b, 0 + k * 2 + 1, none⟩) (Below.heap_setCell _ _ _ _ hne)]; exact h2

theorem Row.setOther {w : World} {b t n} (h : Row w b t n) {B o : Nat} (hne : b ≠ B) (v : Value) : Row (w.setCell ⟨B, o, none⟩ v) b t n := by
  obtain ⟨f, hf⟩ := h
  exact ⟨f, hf.setOther hne v⟩

theorem toJoint_any (j : Jt) (a : Option Addr) (cap : Nat) (w : World) (hn : j.ends.length ≤ 1048576) (hp : EndsAt w a j.ends) :
    Calls Tryd.prog 26 #[.agg #[.int .i64 j.kind, .string j.name, .slice a j.ends.length cap]] w fun e w' =>
    ∃ b, e = .returned (.agg #[.int .i64 j.kind, .string j.name, .slice (some ⟨b, 0, none⟩) j.ends.length j.ends.length]) ∧ w.heap.size ≤ b ∧ Row w' b 46 (j.ends.length * 2) ∧ EndsAt w' (some ⟨b, 0, none⟩) j.ends ∧ Below w.heap.size w w' := by
  have HP := hide hp
  clear hp
  go_enter Tryd.func26, Tryd.ntmps26
  go_wp2_with fail
  have hbW : Below w.heap.size w (((w.alloc (Obj.cells #[Value.int IntKind.i64 j.kind, Value.string j.name, Value.slice a j.ends.length cap] 67)).alloc (Obj.cells #[Value.int IntKind.i64 0, Value.string { data := #[] }, Value.slice none 0 0] 43)).alloc (Obj.cells #[Value.int IntKind.i64 j.kind, Value.string j.name, Value.slice none 0 0] 43)) :=
    (((Below.refl _ _).alloc (Nat.le_refl _) _).alloc (by simp) _).alloc (by simp; omega) _
  refine (toEndS_any a j.ends cap _ hn (HP.out.later hbW)).mono ?_
  rintro e w1 ⟨rfl, hr, he, hb1⟩
  have hb2 := hbW.trans (hb1.mono hbW.size)
  obtain ⟨hc, hf⟩ := bcell hb1
  have hz : w.heap.size + 3 ≤ w1.heap.size := by have := hb1.size; simp at this; omega
  have HR := hide hr
  have HE := hide he
  clear hr he
  go_wp2_with fail
  refine bodyPost_ret (v := .agg #[.int .i64 j.kind, .string j.name, .slice (some ⟨w.heap.size + 3, 0, none⟩) j.ends.length j.ends.length]) (by simp [results, Tryd.results26, go_sem, hc]) rfl ⟨w.heap.size + 3, rfl, by omega, ?_, ?_, ?_⟩
  · have h := HR.out
    simp only [World.size_alloc] at h
    repeat (refine Row.setOther ?_ (by omega) _)
    exact h
  · have h := HE.out
    simp only [World.size_alloc] at h
    repeat (refine EndsAt.setOther ?_ (by omega) _)
    exact h
  · repeat (refine Below.setCell ?_ (by simp; try omega) _)
    exact hb2

theorem JtsOwn.later {w w' : World} {B js} (h : JtsOwn w B js) (hb : Below w.heap.size w w') : JtsOwn w' B js := by
  refine ⟨h.1.later hb, fun k hk => ?_⟩
  obtain ⟨b, h0, h1, h2, h3, h4, h5⟩ := h.2 k hk
  exact ⟨b, h0, cell_later' hb h1, cell_later' hb h2, cell_later' hb h3, h4.later hb, h5.later hb⟩

theorem toJointS_any (a : Option Addr) (js : List Jt) (cap : Nat) (w : World) (hn : js.length ≤ 1048576) (hm : ∀ j ∈ js, j.ends.length ≤ 1048576) (hp : JtsAt w a js) :
    Calls Tryd.prog 14 #[.slice a js.length cap] w fun e w' =>
    e = .returned (.slice (some ⟨w.heap.size, 0, none⟩) js.length js.length) ∧ JtsOwn w' w.heap.size js ∧ Below w.heap.size w w' := by
  have HP := hide hp
  have HM := hide hm
  clear hp hm
  have hmk := run_make_rows (P := Tryd.prog) 29 43 _ _ _ Tryd.underlying29 info_Joint js.length (by omega) (by omega)
  go_enter Tryd.func14, Tryd.ntmps14
  go_wp2
  go_loopw [4] (fun i wr => ∃ (k : Nat) (f : Nat → Value), k ≤ js.length ∧ i = .int .i64 k ∧ wr.rowIs w.heap.size 43 (js.length * 3) f ∧ (∀ j (_ : j < k) (hj : j < js.length), ∃ b, w.heap.size < b ∧ f (j * 3) = .int .i64 js[j].kind ∧ f (j * 3 + 1) = .string js[j].name ∧ f (j * 3 + 2) = .slice (some ⟨b, 0, none⟩) js[j].ends.length js[j].ends.length ∧ Row wr b 46 (js[j].ends.length * 2) ∧ EndsAt wr (some ⟨b, 0, none⟩) js[j].ends) ∧ Below w.heap.size w wr) (fun i _ => js.length - (intOf i).toNat)
  case atStart =>
    obtain ⟨f, hf⟩ := rowIs_made' w #[.int .i64 0, .string ⟨#[]⟩, .slice none 0 0] (js.length * 3) 43
    exact ⟨0, f, Nat.zero_le _, rfl, hf, by intro j hj; omega, (Below.refl _ _).alloc (Nat.le_refl _) _⟩
  case round =>
    obtain ⟨k, f, hk, rfl, hf, hfs, hb⟩ := hrel
    have HF := hide hf
    have HFS := hide hfs
    clear hf hfs hmk
    by_cases hlt : k < js.length
    · obtain ⟨b, off, e, ecap, rfl, c0, c1, c2, ce⟩ := (JtsAt.later HP.out hb) k hlt
      have CE := hide ce
      clear ce
      go_wp2_with fail
      refine (toJoint_any js[k] _ _ _ (HM.out _ (List.getElem_mem hlt)) CE.out).mono ?_
      rintro e w1 ⟨bb, rfl, hbb, hrow, hends, hb1⟩
      have hb2 := hb.trans (hb1.mono hb.size)
      have hf1 := HF.out.of_block (hb1.block _ HF.out.lt)
      have d0 := hf1.cell (i := k * 3) (by omega)
      have d1 := hf1.cell (i := k * 3 + 1) (by omega)
      have d2 := hf1.cell (i := k * 3 + 2) (by omega)
      have z0 := hf1.frozen (k * 3)
      have z1 := hf1.frozen (k * 3 + 1)
      have z2 := hf1.frozen (k * 3 + 2)
      have HF1 := hide hf1
      have hltB : w.heap.size < wr.heap.size := HF.out.lt
      have HR := hide hrow
      have HE := hide hends
      clear hf1 hrow hends
      go_wp2_with fail
      go_roundw
      case rel =>
        refine ⟨k + 1, _, by omega, by go_num, ((HF1.out.set _ _).set _ _).set _ _, ?_, ((hb2.setCell (by simp) _).setCell (by simp) _).setCell (by simp) _⟩
        intro j hj hj'
        rcases Nat.lt_succ_iff_lt_or_eq.mp hj with h | h
        · obtain ⟨b', g0, g1, g2, g3, g4, g5⟩ := HFS.out j h hj'
          refine ⟨b', g0, ?_, ?_, ?_, ?_, ?_⟩
          · rw [if_neg (by omega), if_neg (by omega), if_neg (by omega)]; exact g1
          · rw [if_neg (by omega), if_neg (by omega), if_neg (by omega)]; exact g2
          · rw [if_neg (by omega), if_neg (by omega), if_neg (by omega)]; exact g3
          · have g := g4.later hb1
            repeat (refine Row.setOther ?_ (by omega) _)
            exact g
          · have g := g5.later hb1
            repeat (refine EndsAt.setOther ?_ (by omega) _)
            exact g
        · subst h
          refine ⟨bb, by omega, ?_, ?_, ?_, ?_, ?_⟩
          · rw [if_neg (by omega), if_neg (by omega), if_pos rfl]
          · rw [if_neg (by omega), if_pos rfl]
          · rw [if_pos rfl]
          · have g := HR.out
            repeat (refine Row.setOther ?_ (by omega) _)
            exact g
          · have g := HE.out
            repeat (refine EndsAt.setOther ?_ (by omega) _)
            exact g
      case measure => simp [intOf]; omega
    · go_wp2_with fail
      go_ret
      refine ⟨rfl, ⟨⟨f, HF.out⟩, ?_⟩, hb⟩
      intro j hj
      obtain ⟨b', g0, g1, g2, g3, g4, g5⟩ := HFS.out j (by omega) hj
      refine ⟨b', g0, ?_, ?_, ?_, g4, g5⟩
      · rw [HF.out.cell (by omega), g1]
      · rw [HF.out.cell (by omega), g2]
      · rw [HF.out.cell (by omega), g3]

/-- A net that a call has made, in blocks from B on. -/
def NetOwn (w : World) (B b1 b2 : Nat) (N : Nt) : Prop :=
  B ≤ b1 ∧ b1 < b2 ∧ Row w b1 39 (N.pcs.length * 4) ∧ PcsAt w (some ⟨b1, 0, none⟩) N.pcs ∧ JtsOwn w b2 N.jts

theorem NetOwn.later {w w' : World} {B b1 b2 N} (h : NetOwn w B b1 b2 N) (hb : Below w.heap.size w w') : NetOwn w' B b1 b2 N :=
  ⟨h.1, h.2.1, h.2.2.1.later hb, h.2.2.2.1.later hb, h.2.2.2.2.later hb⟩

theorem PcsAt.setOther {w : World} {b : Nat} {ps} (h : PcsAt w (some ⟨b, 0, none⟩) ps) {B o : Nat} (hne : b ≠ B) (v : Value) : PcsAt (w.setCell ⟨B, o, none⟩ v) (some ⟨b, 0, none⟩) ps := by
  intro k hk
  obtain ⟨b', off, ha, h1, h2, h3, h4⟩ := h k hk
  obtain ⟨rfl, rfl⟩ : b = b' ∧ 0 = off := by simpa using ha
  have e : ∀ i, (w.setCell ⟨B, o, none⟩ v).cell? ⟨b, i, none⟩ = w.cell? ⟨b, i, none⟩ := fun i => World.cell?_of_block (w := w) (w' := w.setCell ⟨B, o, none⟩ v) (a := ⟨b, i, none⟩) (Below.heap_setCell _ _ _ _ hne)
  exact ⟨b, 0, rfl, by rw [e]; exact h1, by rw [e]; exact h2, by rw [e]; exact h3, by rw [e]; exact h4⟩

theorem JtsOwn.setOther {w : World} {b : Nat} {js} (h : JtsOwn w b js) {B o : Nat} (hne : B < b) (v : Value) : JtsOwn (w.setCell ⟨B, o, none⟩ v) b js := by
  refine ⟨h.1.setOther (by omega) v, fun k hk => ?_⟩
  obtain ⟨b', h0, h1, h2, h3, h4, h5⟩ := h.2 k hk
  have e : ∀ i, (w.setCell ⟨B, o, none⟩ v).cell? ⟨b, i, none⟩ = w.cell? ⟨b, i, none⟩ := fun i => World.cell?_of_block (w := w) (w' := w.setCell ⟨B, o, none⟩ v) (a := ⟨b, i, none⟩) (Below.heap_setCell _ _ _ _ (by show b ≠ B; omega))
  exact ⟨b', h0, by rw [e]; exact h1, by rw [e]; exact h2, by rw [e]; exact h3, h4.setOther (by omega) v, h5.setOther (by omega) v⟩

theorem toNet_any (a a' : Option Addr) (N : Nt) (cap cap' : Nat) (w : World) (hn : N.pcs.length ≤ 1048576) (hp : PcsAt w a N.pcs) (hn' : N.jts.length ≤ 1048576) (hm : ∀ j ∈ N.jts, j.ends.length ≤ 1048576) (hp' : JtsAt w a' N.jts) :
    Calls Tryd.prog 6 #[.agg #[.slice a N.pcs.length cap, .slice a' N.jts.length cap']] w fun e w' =>
    ∃ b1 b2, e = .returned (.agg #[.slice (some ⟨b1, 0, none⟩) N.pcs.length N.pcs.length, .slice (some ⟨b2, 0, none⟩) N.jts.length N.jts.length]) ∧ NetOwn w' w.heap.size b1 b2 N ∧ Below w.heap.size w w' := by
  have HP := hide hp
  have HP' := hide hp'
  have HM := hide hm
  clear hp hp' hm
  go_enter Tryd.func6, Tryd.ntmps6
  go_wp2_with fail
  have hbW : Below w.heap.size w (((w.alloc (Obj.cells #[Value.slice a N.pcs.length cap, Value.slice a' N.jts.length cap'] 25)).alloc (Obj.cells #[Value.slice none 0 0, Value.slice none 0 0] 31)).alloc (Obj.cells #[Value.slice none 0 0, Value.slice none 0 0] 31)) :=
    (((Below.refl _ _).alloc (Nat.le_refl _) _).alloc (by simp) _).alloc (by simp; omega) _
  refine (toPieceS_any a N.pcs cap _ hn (HP.out.later hbW)).mono ?_
  rintro e w1 ⟨rfl, hr, he, hb1⟩
  have hb2 := hbW.trans (hb1.mono hbW.size)
  obtain ⟨hc, hf⟩ := bcell hb1
  have hz : w.heap.size + 3 ≤ w1.heap.size := by have := hb1.size; simp at this; omega
  simp only [World.size_alloc] at hr he
  have HR := hide hr
  have HE := hide he
  clear hr he
  have hz1 : w.heap.size + 3 < w1.heap.size := by obtain ⟨f, h⟩ := HR.out; have := h.lt; omega
  go_wp2_with fail
  have hb3 : Below w.heap.size w (w1.setCell ⟨w.heap.size + 1 + 1, 0, none⟩ (.slice (some ⟨w.heap.size + 3, 0, none⟩) N.pcs.length N.pcs.length)) := hb2.setCell (by simp; omega) _
  refine (toJointS_any a' N.jts cap' _ hn' HM.out (HP'.out.later hb3)).mono ?_
  rintro e w2 ⟨rfl, ho, hb4⟩
  have hb5 := hb3.trans (hb4.mono hb3.size)
  obtain ⟨hc', hf'⟩ := bcell hb4
  have hlt2 : w.heap.size + 1 + 1 < (w1.setCell ⟨w.heap.size + 1 + 1, 0, none⟩ (.slice (some ⟨w.heap.size + 3, 0, none⟩) N.pcs.length N.pcs.length)).heap.size := by simp; omega
  have hlt1 : w.heap.size + 1 < (w1.setCell ⟨w.heap.size + 1 + 1, 0, none⟩ (.slice (some ⟨w.heap.size + 3, 0, none⟩) N.pcs.length N.pcs.length)).heap.size := by simp; omega
  have k20 : w2.cell? ⟨w.heap.size + 1 + 1, 0, none⟩ = some (.slice (some ⟨w.heap.size + 3, 0, none⟩) N.pcs.length N.pcs.length) := by rw [hc' _ _ hlt2]; simp [go_sem, hc]
  have k21 : w2.cell? ⟨w.heap.size + 1 + 1, 1, none⟩ = some (.slice none 0 0) := by rw [hc' _ _ hlt2]; simp [go_sem, hc]
  have k10 : w2.cell? ⟨w.heap.size + 1, 0, none⟩ = some (.slice none 0 0) := by rw [hc' _ _ hlt1]; simp [go_sem, hc]
  have k11 : w2.cell? ⟨w.heap.size + 1, 1, none⟩ = some (.slice none 0 0) := by rw [hc' _ _ hlt1]; simp [go_sem, hc]
  have f21 : w2.frozen? ⟨w.heap.size + 1 + 1, 1, none⟩ = false := by rw [hf' _ _ hlt2]; simp [go_sem, hf]
  have f10 : w2.frozen? ⟨w.heap.size + 1, 0, none⟩ = false := by rw [hf' _ _ hlt1]; simp [go_sem, hf]
  have f11 : w2.frozen? ⟨w.heap.size + 1, 1, none⟩ = false := by rw [hf' _ _ hlt1]; simp [go_sem, hf]
  clear hc hf hc' hf'
  have HR2 := hide ((HR.out.setOther (B := w.heap.size + 1 + 1) (o := 0) (by omega) (.slice (some ⟨w.heap.size + 3, 0, none⟩) N.pcs.length N.pcs.length)).later hb4)
  have HE2 := hide ((HE.out.setOther (B := w.heap.size + 1 + 1) (o := 0) (by omega) (.slice (some ⟨w.heap.size + 3, 0, none⟩) N.pcs.length N.pcs.length)).later hb4)
  have hz2 : w1.heap.size ≤ w2.heap.size := by have := hb4.size; simpa using this
  have hs1 : (w1.setCell ⟨w.heap.size + 1 + 1, 0, none⟩ (.slice (some ⟨w.heap.size + 3, 0, none⟩) N.pcs.length N.pcs.length)).heap.size = w1.heap.size := by simp
  rw [hs1] at ho
  have HO := hide ho
  clear ho
  go_wp2_with fail

  refine bodyPost_ret (v := .agg #[.slice (some ⟨w.heap.size + 3, 0, none⟩) N.pcs.length N.pcs.length, .slice (some ⟨w1.heap.size, 0, none⟩) N.jts.length N.jts.length]) (by simp [results, Tryd.results6, go_sem, k10, k11]) rfl ⟨w.heap.size + 3, w1.heap.size, rfl, ⟨by omega, by omega, ?_, ?_, ?_⟩, ?_⟩
  · have h := HR2.out
    repeat (refine Row.setOther ?_ (by omega) _)
    exact h
  · have h := HE2.out
    repeat (refine PcsAt.setOther ?_ (by omega) _)
    exact h
  · have h := HO.out
    repeat (refine JtsOwn.setOther ?_ (by omega) _)
    exact h
  · repeat (refine Below.setCell ?_ (by simp; try omega) _)
    exact hb5
end Go.Proofs.YtokhbnlpifmjkaaDoor

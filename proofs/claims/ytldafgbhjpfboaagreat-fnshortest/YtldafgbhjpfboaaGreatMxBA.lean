/- Ways that were found, in memory, and spec.l4less. Own work. -/
import Derived.Test.YtldafgbhjpfboaaGreatMxAT
import Derived.Test.YtldafgbhjpfboaaGreatMxAV
import Derived.Test.YtldafgbhjpfboaaGreatSxS
import Derived.Test.YtldafgbhjpfboaaGreatMxAY
import Derived.Test.YtldafgbhjpfboaaGreatBeB
import Derived.Test.YtldafgbhjpfboaaGreatMxAZ
import Derived.Test.YtldafgbhjpfboaaGreatMxAW
namespace Go.Proofs.YtldafgbhjpfboaaGreat
open Go.RowKit Go.Sort
set_option maxHeartbeats 8000000
set_option maxRecDepth 100000

/-- A way that was found: its last place, and where its steps lie. -/
structure Cf where
  y : Wy
  a : Int
  z : Option Addr
  c : Nat
instance : Inhabited Cf := ⟨⟨⟨0, []⟩, 0, none, 0⟩⟩
def lastS (y : Wy) : Int × Int := y.ss.getLast?.getD (0, 0)
def cf5 (i : Cf) : List Value := [.int .i64 (lastS i.y).1, .int .i64 i.a, .int .i64 (lastS i.y).2, .int .i64 i.y.far, .slice i.z i.y.ss.length i.c]
def cfCells (l : List Cf) : List Value := l.flatMap cf5
theorem cfCells_cons (x : Cf) (l : List Cf) : cfCells (x :: l) = .int .i64 (lastS x.y).1 :: .int .i64 x.a :: .int .i64 (lastS x.y).2 :: .int .i64 x.y.far :: .slice x.z x.y.ss.length x.c :: cfCells l := rfl
theorem cfCells_len (l : List Cf) : (cfCells l).length = l.length * 5 := by
  induction l with
  | nil => rfl
  | cons x l ih => rw [cfCells_cons]; simp only [List.length_cons, ih]; omega
theorem cfCells_app (l l' : List Cf) : cfCells (l ++ l') = cfCells l ++ cfCells l' := by simp [cfCells]
theorem cfCells_at (l : List Cf) : ∀ k (hk : k < l.length), (cfCells l)[k * 5]? = some (.int .i64 (lastS l[k].y).1) ∧ (cfCells l)[k * 5 + 1]? = some (.int .i64 l[k].a) ∧ (cfCells l)[k * 5 + 2]? = some (.int .i64 (lastS l[k].y).2) ∧ (cfCells l)[k * 5 + 3]? = some (.int .i64 l[k].y.far) ∧ (cfCells l)[k * 5 + 4]? = some (.slice l[k].z l[k].y.ss.length l[k].c) := by
  induction l with
  | nil => intro k hk; simp at hk
  | cons x l ih =>
    intro k hk
    rw [cfCells_cons]
    cases k with
    | zero => exact ⟨rfl, rfl, rfl, rfl, rfl⟩
    | succ k =>
      have h := ih k (by simpa using hk)
      have e1 : (k + 1) * 5 = k * 5 + 1 + 1 + 1 + 1 + 1 := by omega
      rw [e1]
      simp only [Nat.add_right_comm _ 5 _] at *
      exact h
theorem cfCells_set (l : List Cf) : ∀ k (x : Cf), k < l.length → cfCells (l.set k x) = (((((cfCells l).set (k * 5) (.int .i64 (lastS x.y).1)).set (k * 5 + 1) (.int .i64 x.a)).set (k * 5 + 2) (.int .i64 (lastS x.y).2)).set (k * 5 + 3) (.int .i64 x.y.far)).set (k * 5 + 4) (.slice x.z x.y.ss.length x.c) := by
  induction l with
  | nil => intro k x hk; simp at hk
  | cons a l ih =>
    intro k x hk
    cases k with
    | zero => rfl
    | succ k =>
      have e1 : (k + 1) * 5 = k * 5 + 1 + 1 + 1 + 1 + 1 := by omega
      rw [List.set_cons_succ, cfCells_cons, cfCells_cons, ih k x (by simpa using hk), e1]
      rfl
def c0 : Cf := ⟨⟨0, []⟩, 0, none, 0⟩
def cN : Cf := ⟨⟨-1, []⟩, 0, none, 0⟩
theorem cfCells_zero (n : Nat) : cfCells (List.replicate n c0) = (List.replicate n [Value.int .i64 0, .int .i64 0, .int .i64 0, .int .i64 0, .slice none 0 0]).flatten := by
  induction n with
  | zero => rfl
  | succ n ih => rw [List.replicate_succ, List.replicate_succ, cfCells_cons, ih, List.flatten_cons]; rfl

theorem lessS_at : ∀ (a b : List (Int × Int)) (k : Nat) (hk : k < a.length) (hk' : k < b.length), a.take k = b.take k → a[k] ≠ b[k] → lessS a b = if a[k].1 = b[k].1 then decide (a[k].2 < b[k].2) else decide (a[k].1 < b[k].1)
  | [], _, _, hk, _, _, _ => by simp at hk
  | _ :: _, [], _, _, hk', _, _ => by simp at hk'
  | x :: a, y :: b, 0, _, _, _, hne => by
    simp only [List.getElem_cons_zero] at hne ⊢
    unfold lessS
    by_cases h1 : x.1 = y.1
    · rw [if_pos h1, if_pos h1]
      by_cases h2 : x.2 = y.2
      · exact absurd (Prod.ext h1 h2) hne
      · rw [if_neg h2]
    · rw [if_neg h1, if_neg h1]
  | x :: a, y :: b, k + 1, hk, hk', ht, hne => by
    simp only [List.take_succ_cons, List.cons.injEq] at ht
    simp only [List.getElem_cons_succ] at hne ⊢
    have ih := lessS_at a b k (by simpa using hk) (by simpa using hk') ht.2 hne
    rw [ht.1]
    unfold lessS
    simp only [if_true]
    exact ih
def LsB (w wr : World) (af : Int) (av : Value) (bf : Int) (bv : Value) : Prop :=
  (wr.cell? ⟨w.heap.size, 3, none⟩ = some (.int .i64 af) ∧ wr.cell? ⟨w.heap.size, 4, none⟩ = some av ∧ wr.cell? ⟨w.heap.size + 1, 3, none⟩ = some (.int .i64 bf) ∧ wr.cell? ⟨w.heap.size + 1, 4, none⟩ = some bv) ∧ Below w.heap.size w wr
theorem LsB.later {w w1 w2 : World} {af bf : Int} {av bv : Value} (h : LsB w w1 af av bf bv) (hb : Below w1.heap.size w1 w2) : LsB w w2 af av bf bv :=
  ⟨⟨cell_later' hb h.1.1, cell_later' hb h.1.2.1, cell_later' hb h.1.2.2.1, cell_later' hb h.1.2.2.2⟩, h.2.trans (hb.mono h.2.size)⟩
theorem l4less_any (za zb : Option Addr) (ca cb : Nat) (a0 a1 a2 b0 b1 b2 : Int) (x y : Wy) (w : World) (hx : x.ss.length ≤ 1048576) (ha : EndsAt w za x.ss) (hb : EndsAt w zb y.ss) :
    Calls Tryz.prog 28 #[.agg #[.int .i64 a0, .int .i64 a1, .int .i64 a2, .int .i64 x.far, .slice za x.ss.length ca], .agg #[.int .i64 b0, .int .i64 b1, .int .i64 b2, .int .i64 y.far, .slice zb y.ss.length cb]] w fun e w' => e = .returned (.bool (lessW x y)) ∧ Below w.heap.size w w' := by
  have HX := hide ha
  have HY := hide hb
  clear ha hb
  generalize hRes : lessW x y = Res
  have HRES := hide hRes
  clear hRes
  go_enter Tryz.func28, Tryz.ntmps28
  have HB0 : Hid (LsB w ((w.alloc (.cells #[.int .i64 a0, .int .i64 a1, .int .i64 a2, .int .i64 x.far, .slice za x.ss.length ca] 71)).alloc (.cells #[.int .i64 b0, .int .i64 b1, .int .i64 b2, .int .i64 y.far, .slice zb y.ss.length cb] 71)) x.far (.slice za x.ss.length ca) y.far (.slice zb y.ss.length cb)) :=
    ⟨⟨by simp [go_sem], by simp [go_sem], by simp [go_sem], by simp [go_sem]⟩, ((Below.refl _ _).alloc (Nat.le_refl _) _).alloc (by simp) _⟩
  go_upto_region 1 with fail
  generalize ((w.alloc (.cells #[.int .i64 a0, .int .i64 a1, .int .i64 a2, .int .i64 x.far, .slice za x.ss.length ca] 71)).alloc (.cells #[.int .i64 b0, .int .i64 b1, .int .i64 b2, .int .i64 y.far, .slice zb y.ss.length cb] 71)) = w1 at *
  obtain ⟨⟨t0, t1, t2, t3⟩, hbw⟩ := HB0.out
  obtain ⟨xf, xs⟩ := x
  obtain ⟨yf, ys⟩ := y
  dsimp only at *
  by_cases hf : xf = yf
  · subst hf
    by_cases hl : xs.length = ys.length
    · have HLL := hide hl
      have q : ((xs.length : Int) != (ys.length : Int)) = false := by rw [hl]; simp
      clear hl
      go_wp2_with fail
      go_loopw [5, 6, 7, 35] (fun _ _ _ i wr => ∃ (k : Nat), k ≤ xs.length ∧ i = .int .i64 k ∧ Hid (xs.take k = ys.take k) ∧ Hid (LsB w wr xf (.slice za xs.length ca) xf (.slice zb ys.length cb))) (fun _ _ _ i _ => xs.length - (intOf i).toNat)
      case atStart => exact ⟨0, Nat.zero_le _, rfl, hide (by simp), HB0⟩
      case round =>
        obtain ⟨k, hk, rfl, HT, HLS⟩ := hrel
        clear t0 t1 t2 t3 hbw
        by_cases hlt : k < xs.length
        · obtain ⟨b1, off, rfl, e0, e1⟩ := (EndsAt.later HX.out HLS.out.2) k hlt
          have hky : k < ys.length := by have := HLL.out; omega
          obtain ⟨b2, off', rfl, d0, d1⟩ := (EndsAt.later HY.out HLS.out.2) k hky
          obtain ⟨⟨t0, t1, t2, t3⟩, hbw⟩ := HLS.out
          have hi1 : (k : Int) < (ys.length : Int) := by omega
          have hl1 := cell_lt e0
          have hl2 := cell_lt d0
          have hl3 := cell_lt t0
          have hl4 := cell_lt t2
          have HLA := hide (HLS.out.later (((Below.refl wr.heap.size wr).alloc (Nat.le_refl _) (.cells #[.int .i64 xs[k].1, .int .i64 xs[k].2] 37)).alloc (by simp) (.cells #[.int .i64 ys[k].1, .int .i64 ys[k].2] 37)))
          have HTN := hide (show xs[k] = ys[k] → xs.take (k + 1) = ys.take (k + 1) from fun h => by
            rw [List.take_succ_eq_append_getElem hlt, List.take_succ_eq_append_getElem hky, HT.out, h])
          have HAT := hide (fun hne => lessS_at xs ys k hlt hky HT.out hne)
          clear hbw
          generalize xs[k] = u at *
          generalize ys[k] = v at *
          obtain ⟨u1, u2⟩ := u
          obtain ⟨v1, v2⟩ := v
          dsimp only at *
          have HLW := hide (show lessS xs ys = Res by
            have h := HRES.out
            unfold lessW at h
            rw [if_pos rfl] at h
            rw [if_pos HLL.out] at h
            exact h)
          by_cases h1 : u1 = v1
          · subst h1
            by_cases h2 : u2 = v2
            · subst h2
              have q1 : (u1 != u1) = false := by simp
              have q2 : (u2 != u2) = false := by simp
              go_wp2_with fail
              go_roundw
              case rel => exact ⟨k + 1, by omega, by go_num, hide (HTN.out rfl), HLA⟩
              case measure => simp [intOf]; omega
            · have HR := hide (show decide (u2 < v2) = Res by
                rw [← HLW.out, HAT.out (fun e => h2 (Prod.mk.inj e).2), if_pos rfl])
              have q1 : (u1 != u1) = false := by simp
              have q2 : (u2 != v2) = true := by rw [bne_iff_ne]; exact h2
              clear h2
              go_wp2_with fail
              go_ret
              exact ⟨ret_b HR.out, HLA.out.2⟩
          · have HR := hide (show decide (u1 < v1) = Res by
              rw [← HLW.out, HAT.out (fun e => h1 (Prod.mk.inj e).1), if_neg h1])
            have q1 : (u1 != v1) = true := by rw [bne_iff_ne]; exact h1
            clear h1
            go_wp2_with fail
            go_ret
            exact ⟨ret_b HR.out, HLA.out.2⟩
        · have HR := hide (show false = Res by
            have e := HT.out
            rw [List.take_of_length_le (by omega), List.take_of_length_le (by have := HLL.out; omega)] at e
            rw [← HRES.out, e]
            exact (lessW_irr _).symm)
          go_wp2_with fail
          go_ret
          exact ⟨ret_b HR.out, HLS.out.2⟩
    · have HR := hide (show decide (xs.length < ys.length) = Res by
        rw [← HRES.out]
        unfold lessW
        rw [if_pos rfl]
        rw [if_neg hl])
      have q : ((xs.length : Int) != (ys.length : Int)) = true := by rw [bne_iff_ne]; omega
      clear hl
      go_wp2_with fail
      go_ret
      exact ⟨ret_b HR.out, hbw⟩
  · have HR := hide (show decide (xf < yf) = Res by
      rw [← HRES.out]
      unfold lessW
      rw [if_neg hf])
    have q : (xf != yf) = true := by rw [bne_iff_ne]; exact hf
    clear hf
    go_wp2_with fail
    go_ret
    exact ⟨ret_b HR.out, hbw⟩
end Go.Proofs.YtldafgbhjpfboaaGreat

/- spec.l4from: what lies where. Own work. -/
namespace Go.Proofs.YtldafgbhjpfboaaGreat
open Go.RowKit Go.Sort
set_option maxHeartbeats 8000000
set_option maxRecDepth 100000

theorem infoCf : (Tryz.prog.info? 71).map (fun i => (i.zero, i.size, i.bytes)) = some (some (.agg #[.int .i64 0, .int .i64 0, .int .i64 0, .int .i64 0, .slice none 0 0]), 5, 56) := by kernel_rfl
theorem owns_off {w w' : World} {base g : Nat} {e : TypeId} {size : Nat} {v : Value} {n : Nat} {xs : List Value} (h : w.ownsRow base e size v n xs) (hm : Mid g (g + 1) w w') (hne : v.ownBlock ≠ some g) : w'.ownsRow base e size v n xs := by
  refine ⟨h.1, ?_⟩
  rcases h.2 with h' | ⟨g', cap, cur, hv, hbg, hg, rest⟩
  · exact .inl h'
  · refine .inr ⟨g', cap, cur, hv, hbg, ?_, rest⟩
    have hgm : g' ≠ g := fun e => hne (by rw [hv, ← e]; rfl)
    have hlt : g' < w.heap.size := by
      rcases Nat.lt_or_ge g' w.heap.size with h | h
      · exact h
      · rw [Array.getElem?_eq_none h] at hg; cases hg
    rw [hm.block g' hlt (by omega)]
    exact hg
theorem owns_type {w : World} {base g : Nat} {e e' : TypeId} {size : Nat} {v : Value} {n : Nat} {xs : List Value} (h : w.ownsRow base e size v n xs) (hv : v.ownBlock = some g) (hne : e ≠ e') : ∀ cur fz, w.heap[g]? ≠ some (.cells cur e' fz) := by
  intro cur fz hc
  rcases h.2 with ⟨h', _⟩ | ⟨g', cap, cur', hv', _, hg, _⟩
  · rw [h'] at hv; cases hv
  · rw [hv'] at hv
    have : g' = g := by simpa [Value.ownBlock] using hv
    subst this
    rw [hg] at hc
    simp at hc
    exact hne hc.2.1
/-- Where all lies while ways are sought. -/
structure FrI (w wr : World) (v0 v1 : Value) (n2 bB kB : Nat) (bl : List Cf) (kl : List Bool) (lv : Value) (line : List Cf) (nv : Value) (nx : List Cf) : Prop where
  n0 : wr.cell? ⟨w.heap.size, 0, none⟩ = some v0
  n1 : wr.cell? ⟨w.heap.size, 1, none⟩ = some v1
  below : Below w.heap.size w wr
  ob : wr.ownsRow (w.heap.size + 2) 71 5 (.slice (some ⟨bB, 0, none⟩) n2 n2) n2 (cfCells bl)
  ok : wr.ownsRow (w.heap.size + 2) 4 1 (.slice (some ⟨kB, 0, none⟩) n2 n2) n2 (kl.map .bool)
  ol : wr.ownsRow (w.heap.size + 2) 71 5 lv line.length (cfCells line)
  on : wr.ownsRow (w.heap.size + 2) 71 5 nv nx.length (cfCells nx)
  d1 : lv.ownBlock ≠ some bB
  d2 : nv.ownBlock ≠ some bB
  d3 : ∀ g, nv.ownBlock = some g → lv.ownBlock ≠ some g
  rs : ∀ i, i ∈ bl ∨ i ∈ line ∨ i ∈ nx → StRow wr i.z i.y.ss
section
variable {w wr wr' : World} {v0 v1 lv nv : Value} {n2 bB kB : Nat} {bl line nx : List Cf} {kl : List Bool}
theorem FrI.later (h : FrI w wr v0 v1 n2 bB kB bl kl lv line nv nx) (hb : Below wr.heap.size wr wr') : FrI w wr' v0 v1 n2 bB kB bl kl lv line nv nx :=
  ⟨cell_later' hb h.n0, cell_later' hb h.n1, h.below.trans (hb.mono h.below.size), owns_later' h.ob hb, owns_later' h.ok hb, owns_later' h.ol hb, owns_later' h.on hb, h.d1, h.d2, h.d3, fun i hi => (h.rs i hi).later hb⟩
theorem FrI.len (h : FrI w wr v0 v1 n2 bB kB bl kl lv line nv nx) : bl.length = n2 ∧ kl.length = n2 := by
  have h1 := h.ob.1
  have h2 := h.ok.1
  rw [cfCells_len] at h1
  rw [List.length_map] at h2
  omega
theorem FrI.neK (h : FrI w wr v0 v1 n2 bB kB bl kl lv line nv nx) : kB ≠ bB := by
  rcases owns_ne h.ok h.ob (by decide) with h' | h'
  · simp [Value.ownBlock] at h'
  · exact fun e => h' (by rw [e])
theorem FrI.neK' (h : FrI w wr v0 v1 n2 bB kB bl kl lv line nv nx) : lv.ownBlock ≠ some kB ∧ nv.ownBlock ≠ some kB := by
  constructor
  · rcases owns_ne h.ol h.ok (by decide) with h' | h'
    · rw [h']; simp
    · exact h'
  · rcases owns_ne h.on h.ok (by decide) with h' | h'
    · rw [h']; simp
    · exact h'
theorem FrI.lo (h : FrI w wr v0 v1 n2 bB kB bl kl lv line nv nx) : w.heap.size + 2 ≤ bB ∧ w.heap.size + 2 ≤ kB ∧ bB < wr.heap.size ∧ kB < wr.heap.size := ⟨(h.ob.lt bB rfl).1, (h.ok.lt kB rfl).1, (h.ob.lt bB rfl).2, (h.ok.lt kB rfl).2⟩
/-- A step's mark. -/
theorem FrI.mark (h : FrI w wr v0 v1 n2 bB kB bl kl lv line nv nx) (p : Nat) (b : Bool) : FrI w (wr.setCell ⟨kB, p, none⟩ (.bool b)) v0 v1 n2 bB kB bl (kl.set p b) lv line nv nx := by
  have hm : Mid kB (kB + 1) wr (wr.setCell ⟨kB, p, none⟩ (.bool b)) := Mid.set1 _
  obtain ⟨l1, l2, _, _⟩ := h.lo
  have hne := h.neK
  have h' := h.neK'
  refine ⟨hm.cell (by omega) h.n0, hm.cell (by omega) h.n1, h.below.trans ((hm.below (by omega)).mono (by omega)), owns_off h.ob hm (show some bB ≠ some kB from fun e => hne (Option.some.inj e).symm), ?_, owns_off h.ol hm h'.1, owns_off h.on hm h'.2, h.d1, h.d2, h.d3, fun i hi => (h.rs i hi).mid hm (owns_type h.ok rfl (by decide))⟩
  have hs := (h.ok.stored p (.bool b)).1
  rw [List.map_set]
  exact hs
/-- What is best now. -/
theorem FrI.put (h : FrI w wr v0 v1 n2 bB kB bl kl lv line nv nx) (p : Nat) (hp : p < n2) (x : Cf) (hx : StRow wr x.z x.y.ss) :
    FrI w (((((wr.setCell ⟨bB, p * 5, none⟩ (.int .i64 (lastS x.y).1)).setCell ⟨bB, p * 5 + 1, none⟩ (.int .i64 x.a)).setCell ⟨bB, p * 5 + 2, none⟩ (.int .i64 (lastS x.y).2)).setCell ⟨bB, p * 5 + 3, none⟩ (.int .i64 x.y.far)).setCell ⟨bB, p * 5 + 4, none⟩ (.slice x.z x.y.ss.length x.c)) v0 v1 n2 bB kB (bl.set p x) kl lv line nv nx ∧
    Mid bB (bB + 1) wr (((((wr.setCell ⟨bB, p * 5, none⟩ (.int .i64 (lastS x.y).1)).setCell ⟨bB, p * 5 + 1, none⟩ (.int .i64 x.a)).setCell ⟨bB, p * 5 + 2, none⟩ (.int .i64 (lastS x.y).2)).setCell ⟨bB, p * 5 + 3, none⟩ (.int .i64 x.y.far)).setCell ⟨bB, p * 5 + 4, none⟩ (.slice x.z x.y.ss.length x.c)) := by
  have hm : Mid bB (bB + 1) wr (((((wr.setCell ⟨bB, p * 5, none⟩ (.int .i64 (lastS x.y).1)).setCell ⟨bB, p * 5 + 1, none⟩ (.int .i64 x.a)).setCell ⟨bB, p * 5 + 2, none⟩ (.int .i64 (lastS x.y).2)).setCell ⟨bB, p * 5 + 3, none⟩ (.int .i64 x.y.far)).setCell ⟨bB, p * 5 + 4, none⟩ (.slice x.z x.y.ss.length x.c)) :=
    ((((Mid.refl _ _ _).setCell (Nat.le_refl _) (by omega) _).setCell (Nat.le_refl _) (by omega) _).setCell (Nat.le_refl _) (by omega) _).setCell (Nat.le_refl _) (by omega) _ |>.setCell (Nat.le_refl _) (by omega) _
  obtain ⟨l1, l2, _, _⟩ := h.lo
  have hne := h.neK
  have hT := owns_type h.ob rfl (show (71 : TypeId) ≠ 37 by decide)
  refine ⟨⟨hm.cell (by omega) h.n0, hm.cell (by omega) h.n1, h.below.trans ((hm.below (by omega)).mono (by omega)), ?_, owns_off h.ok hm (show some kB ≠ some bB from fun e => hne (Option.some.inj e)), owns_off h.ol hm h.d1, owns_off h.on hm h.d2, h.d1, h.d2, h.d3, fun i hi => ?_⟩, hm⟩
  · have hs := (((((h.ob.stored (p * 5) (.int .i64 (lastS x.y).1)).1.stored (p * 5 + 1) (.int .i64 x.a)).1.stored (p * 5 + 2) (.int .i64 (lastS x.y).2)).1.stored (p * 5 + 3) (.int .i64 x.y.far)).1.stored (p * 5 + 4) (.slice x.z x.y.ss.length x.c)).1
    rw [cfCells_set _ p _ (by rw [h.len.1]; exact hp)]
    exact hs
  · rcases hi with hi | hi
    · rcases List.mem_or_eq_of_mem_set hi with hi | rfl
      · exact (h.rs i (.inl hi)).mid hm hT
      · exact hx.mid hm hT
    · exact (h.rs i (.inr hi)).mid hm hT
/-- One more for the next line. -/
theorem FrI.app (h : FrI w wr v0 v1 n2 bB kB bl kl lv line nv nx) {g cap : Nat} {x : Cf} (hx : StRow wr x.z x.y.ss) (hg : wr.grownBy wr' nv.ownBlock) (hown : wr'.ownsRow (w.heap.size + 2) 71 5 (.slice (some ⟨g, 0, none⟩) (nx.length + 1) cap) (nx.length + 1) (cfCells nx ++ cf5 x)) (hgg : nv.ownBlock = some g ∨ wr.heap.size ≤ g) : FrI w wr' v0 v1 n2 bB kB bl kl lv line (.slice (some ⟨g, 0, none⟩) (nx.length + 1) cap) (nx ++ [x]) := by
  have hlo : ∀ g', nv.ownBlock = some g' → w.heap.size + 2 ≤ g' := fun g' e => (h.on.lt g' e).1
  have hne : ∀ b, b < w.heap.size + 2 → some b ≠ nv.ownBlock := fun b hb e => by have := hlo b e.symm; omega
  obtain ⟨l1, l2, l3, l4⟩ := h.lo
  have hnk := h.neK'
  have hlw := cell_lt h.n0
  have hcell : ∀ (o : Nat) (u : Value), wr.cell? ⟨w.heap.size, o, none⟩ = some u → wr'.cell? ⟨w.heap.size, o, none⟩ = some u := fun o u hc => by
    rw [World.cell?_of_block (a := ⟨w.heap.size, o, none⟩) (hg.block w.heap.size hlw (fun e => hne _ (by omega) e))]; exact hc
  have hst : ∀ {z ss}, StRow wr z ss → StRow wr' z ss := fun {z ss} hs => by
    cases hn : nv.ownBlock with
    | none =>
      rw [hn] at hg
      exact hs.later ⟨hg.os, hg.tape, hg.output, hg.size, fun k hk => hg.block k hk (by simp)⟩
    | some g' =>
      rw [hn] at hg
      exact hs.mid (g := g') ⟨hg.os, hg.tape, hg.output, hg.size, fun k hk hk' => hg.block k hk (fun e => by have := Option.some.inj e; omega)⟩ (owns_type h.on hn (by decide))
  refine ⟨hcell _ _ h.n0, hcell _ _ h.n1, ?_, h.ob.kept hg (.inr (fun e => h.d2 e.symm)), h.ok.kept hg (.inr (fun e => hnk.2 e.symm)), h.ol.kept hg ?_, ?_, h.d1, ?_, ?_, ?_⟩
  · exact ⟨hg.os.trans h.below.os, hg.tape.trans h.below.tape, hg.output.trans h.below.output, Nat.le_trans h.below.size hg.size, fun k hk => (hg.block k (Nat.lt_of_lt_of_le hk h.below.size) (fun e => hne k (by omega) e)).trans (h.below.block k hk)⟩
  · cases hn : nv.ownBlock with
    | none =>
      cases hl : lv.ownBlock with
      | none => exact .inl rfl
      | some _ => exact .inr (by simp)
    | some g' => exact .inr (h.d3 g' hn)
  · rw [List.length_append, cfCells_app]
    exact hown
  · rintro e
    have e' : g = bB := by simpa [Value.ownBlock] using e
    rcases hgg with hgg | hgg
    · exact h.d2 (by rw [hgg, e'])
    · omega
  · intro g' e
    have e' : g = g' := by simpa [Value.ownBlock] using e
    subst e'
    rcases hgg with hgg | hgg
    · exact h.d3 g hgg
    · intro hl
      have := (h.ol.lt g hl).2
      omega
  · intro i hi
    rcases hi with hi | hi | hi
    · exact hst (h.rs i (.inl hi))
    · exact hst (h.rs i (.inr (.inl hi)))
    · rcases List.mem_append.1 hi with hi | hi
      · exact hst (h.rs i (.inr (.inr hi)))
      · rw [List.mem_singleton.1 hi]; exact hst hx
theorem FrI.setLine (h : FrI w wr v0 v1 n2 bB kB bl kl lv line nv nx) {lv' nv' : Value} {line' nx' : List Cf} (hl : wr.ownsRow (w.heap.size + 2) 71 5 lv' line'.length (cfCells line')) (hn : wr.ownsRow (w.heap.size + 2) 71 5 nv' nx'.length (cfCells nx')) (d1 : lv'.ownBlock ≠ some bB) (d2 : nv'.ownBlock ≠ some bB) (d3 : ∀ g, nv'.ownBlock = some g → lv'.ownBlock ≠ some g) (rs : ∀ i, i ∈ line' ∨ i ∈ nx' → StRow wr i.z i.y.ss) : FrI w wr v0 v1 n2 bB kB bl kl lv' line' nv' nx' :=
  ⟨h.n0, h.n1, h.below, h.ob, h.ok, hl, hn, d1, d2, d3, fun i hi => hi.elim (fun hi => h.rs i (.inl hi)) (fun hi => rs i hi)⟩
/-- The next line is the line. -/
theorem FrI.turn (h : FrI w wr v0 v1 n2 bB kB bl kl lv line nv nx) : FrI w wr v0 v1 n2 bB kB bl kl nv nx (.slice none 0 0) [] :=
  h.setLine h.on (World.ownsRow_nil _ _ _ _) h.d2 (by simp [Value.ownBlock]) (fun g e => by simp [Value.ownBlock] at e) (fun i hi => hi.elim (fun hi => h.rs i (.inr (.inr hi))) (fun hi => by simp at hi))
end
/-! ### Which step stands where -/
def stepAt (p : Nat) : Int × Int := stepOf (((p / 2 : Nat) : Int), ((p % 2 : Nat) : Int))
theorem stepAt_end {n : Nat} {e : Int × Int} (he : endOk n e = true) {p : Nat} (hp : (p : Int) = 2 * e.1 + e.2) : stepAt p = stepOf e ∧ p < 2 * n := by
  simp only [endOk, inR, Bool.and_eq_true, decide_eq_true_eq] at he
  have h1 : (((p / 2 : Nat) : Int), ((p % 2 : Nat) : Int)) = e := Prod.ext (by dsimp only; omega) (by dsimp only; omega)
  unfold stepAt
  rw [h1]
  exact ⟨rfl, by omega⟩
theorem stepAt_inj {p p' : Nat} (h : stepAt p = stepAt p') : p = p' := by
  unfold stepAt stepOf at h
  obtain ⟨h1, h2⟩ := Prod.mk.inj h
  dsimp only at h1 h2
  split at h2 <;> split at h2 <;> omega
/-- What the two rows say. -/
def BestR (best : Int × Int → Option Wy) (bl : List Cf) (kl : List Bool) (n2 : Nat) : Prop :=
  ∀ p, p < n2 → (best (stepAt p) = none ∧ bl[p]? = some c0 ∧ kl[p]? = some false) ∨ ∃ i, best (stepAt p) = some i.y ∧ bl[p]? = some i ∧ kl[p]? = some true
theorem bestR_start (n2 : Nat) : BestR (fun _ => none) (List.replicate n2 c0) (List.replicate n2 false) n2 := fun p hp => .inl ⟨rfl, by simp [hp], by simp [hp]⟩
theorem BestR.put {best : Int × Int → Option Wy} {bl : List Cf} {kl : List Bool} {n2 : Nat} (h : BestR best bl kl n2) {p : Nat} (hp : p < n2) (hb : bl.length = n2) (hk : kl.length = n2) (x : Cf) : BestR (fun t => if t = stepAt p then some x.y else best t) (bl.set p x) (kl.set p true) n2 := by
  intro r hr
  by_cases e : r = p
  · subst e
    exact .inr ⟨x, by simp, by simp [hb, hr], by simp [hk, hr]⟩
  · have hne : stepAt r ≠ stepAt p := fun h' => e (stepAt_inj h')
    simp only [if_neg hne]
    rw [List.getElem?_set_ne (fun h' => e h'.symm), List.getElem?_set_ne (fun h' => e h'.symm)]
    exact h r hr
/-- What is asked of a way that is to be gone on from. -/
structure CfR (N : Nt) (G : Gr) (room : Int) (i : Cf) : Prop where
  spot : spotP N (lastS i.y).1 i.a (lastS i.y).2 = true
  room : roomP N (lastS i.y).1 i.a (lastS i.y).2 = costW G room i.y (lastS i.y)
end Go.Proofs.YtldafgbhjpfboaaGreat

/- A path's box. Own work. -/
namespace Go.Proofs.YtldafgbhjpfboaaGreat
open Go.RowKit Go.Sort
set_option maxHeartbeats 1000000

/-- A path's box that holds nothing yet. -/
def ZeroP (w : World) (b : Nat) : Prop := (w.cell? ⟨b, 0, none⟩ = some (.bool false) ∧ w.cell? ⟨b, 1, none⟩ = some (.int .i64 0) ∧ w.cell? ⟨b, 2, none⟩ = some (.slice none 0 0) ∧ w.cell? ⟨b, 3, none⟩ = some (.slice none 0 0)) ∧ (∀ o, w.frozen? ⟨b, o, none⟩ = false) ∧ ∀ cur fz, w.heap[b]? ≠ some (.cells cur 37 fz)
theorem ZeroP.later {w w' : World} {b : Nat} (h : ZeroP w b) (hb : Below w.heap.size w w') : ZeroP w' b := by
  obtain ⟨⟨h0, h1, h2, h3⟩, hf, hT⟩ := h
  exact ⟨⟨cell_later' hb h0, cell_later' hb h1, cell_later' hb h2, cell_later' hb h3⟩, fun o => by rw [hb.frozen (p := ⟨b, o, none⟩) (cell_lt h0)]; exact hf o, fun cur fz => by rw [hb.block b (cell_lt h0)]; exact hT cur fz⟩
theorem ZeroP.new (w : World) : ZeroP (w.alloc (.cells #[.bool false, .int .i64 0, .slice none 0 0, .slice none 0 0] 34)) w.heap.size := by
  refine ⟨⟨new_cell w _ _ 0 _ rfl, new_cell w _ _ 1 _ rfl, new_cell w _ _ 2 _ rfl, new_cell w _ _ 3 _ rfl⟩, fun o => by simp [go_sem], fun cur fz e => ?_⟩
  rw [heap_alloc_new] at e
  simp at e
abbrev put4 (w : World) (b : Nat) (x0 x1 x2 x3 : Value) : World := (((w.setCell ⟨b, 0, none⟩ x0).setCell ⟨b, 1, none⟩ x1).setCell ⟨b, 2, none⟩ x2).setCell ⟨b, 3, none⟩ x3
theorem mid4 (w : World) (b : Nat) (x0 x1 x2 x3 : Value) : Mid b (b + 1) w (put4 w b x0 x1 x2 x3) :=
  ((((Mid.refl _ _ _).setCell (Nat.le_refl _) (by omega) _).setCell (Nat.le_refl _) (by omega) _).setCell (Nat.le_refl _) (by omega) _).setCell (Nat.le_refl _) (by omega) _
theorem below4 {W w : World} {b : Nat} (h : Below W.heap.size W w) (hb : W.heap.size ≤ b) (x0 x1 x2 x3 : Value) : Below W.heap.size W (put4 w b x0 x1 x2 x3) :=
  (((h.setCell hb x0).setCell hb x1).setCell hb x2).setCell hb x3
theorem ends_mid {w w' : World} {g : Nat} {z : Option Addr} {es : List (Int × Int)} (h : EndsAt w z es) (hm : Mid g (g + 1) w w') (hne : ∀ b o, z = some ⟨b, o, none⟩ → b ≠ g) : EndsAt w' z es := by
  intro k hk
  obtain ⟨b, off, rfl, h1, h2⟩ := h k hk
  have := hne b off rfl
  exact ⟨b, off, rfl, hm.cell (by show b < g ∨ g + 1 ≤ b; omega) h1, hm.cell (by show b < g ∨ g + 1 ≤ b; omega) h2⟩
theorem owns_ge {w : World} {base : Nat} {e : TypeId} {v : Value} {n : Nat} {xs : List Value} (h : w.ownsRow base e 2 v n xs) {b o n' c : Nat} (hv : v = .slice (some ⟨b, o, none⟩) n' c) : base ≤ b := by
  subst hv
  exact (h.lt b rfl).1
end Go.Proofs.YtldafgbhjpfboaaGreat

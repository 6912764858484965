import Derived.Test.YteapmddadieohaaMxAE
import Derived.Test.YteapmddadieohaaMxAC
namespace Go.Proofs.Yteapmddadieohaa
open Go.RowKit
set_option maxHeartbeats 1000000

def headP (q way : Int) : Int × Int := if way = 1 then (q, 1) else (q, 0)
def enterP (N : Nt) (e : Int × Int) : Int × Int × Int := if e.2 = 0 then (e.1, 0, 1) else (e.1, lenAt N e.1, -1)
def roomP (N : Nt) (q at' way : Int) : Int := if way = 1 then lenAt N q - at' else at'

theorem l3head_any (q at' way : Int) (w : World) :
    Calls Try.prog 38 #[.agg #[.int .i64 q, .int .i64 at', .int .i64 way]] w fun e w' =>
    e = .returned (.agg #[.int .i64 (headP q way).1, .int .i64 (headP q way).2]) ∧ Below w.heap.size w w' := by
  by_cases h : way = 1
  · subst h
    go_enter Try.func38, Try.ntmps38
    go_wp2
    exact bodyPost_ret (v := .agg #[.int .i64 q, .int .i64 1]) (by simp [results, Try.results38, go_sem]) rfl ⟨rfl, ((Below.refl _ _).alloc (Nat.le_refl _) _).alloc (by simp) _⟩
  · have hb : (way == 1) = false := by rw [beq_eq_false_iff_ne]; exact h
    have H := hide (show headP q way = (q, 0) by simp [headP, h])
    clear h
    go_enter Try.func38, Try.ntmps38
    go_wp2
    exact bodyPost_ret (v := .agg #[.int .i64 q, .int .i64 0]) (by simp [results, Try.results38, go_sem]) rfl ⟨by rw [H.out], ((Below.refl _ _).alloc (Nat.le_refl _) _).alloc (by simp) _⟩

theorem lenAt_nat (N : Nt) (k : Nat) (hk : k < N.pcs.length) : lenAt N (k : Int) = N.pcs[k].len := by simp [lenAt, hk]

theorem l3enter_any (a a' : Option Addr) (N : Nt) (cap cap' k : Nat) (sd : Int) (w : World) (hk : k < N.pcs.length) (hp : PcsAt w a N.pcs) :
    Calls Try.prog 39 #[.agg #[.slice a N.pcs.length cap, .slice a' N.jts.length cap'], .agg #[.int .i64 k, .int .i64 sd]] w fun e w' =>
    e = .returned (.agg #[.int .i64 (enterP N (k, sd)).1, .int .i64 (enterP N (k, sd)).2.1, .int .i64 (enterP N (k, sd)).2.2]) ∧ Below w.heap.size w w' := by
  obtain ⟨b, off, rfl, c0, c1, c2, c3⟩ := hp k hk
  have hblt := cell_lt c0
  have hblt1 : b < w.heap.size + 1 := by omega
  have hblt2 : b < w.heap.size + 1 + 1 := by omega
  have hi : (k : Int) < (N.pcs.length : Int) := by omega
  clear hp c0 c2 c3
  by_cases h : sd = 0
  · subst h
    go_enter Try.func39, Try.ntmps39
    go_wp2
    exact bodyPost_ret (v := .agg #[.int .i64 k, .int .i64 0, .int .i64 1]) (by simp [results, Try.results39, go_sem]) rfl ⟨rfl, (((Below.refl _ _).alloc (Nat.le_refl _) _).alloc (by simp) _).alloc (by simp; omega) _⟩
  · have hb : (sd == 0) = false := by rw [beq_eq_false_iff_ne]; exact h
    have H := hide (show enterP N (k, sd) = ((k : Int), N.pcs[k].len, -1) by simp [enterP, h, lenAt_nat N k hk])
    clear h
    go_enter Try.func39, Try.ntmps39
    go_wp2_with fail
    go_region
    all_goals
      go_wp2_with fail
      refine bodyPost_ret (v := .agg #[.int .i64 k, .int .i64 N.pcs[k].len, .int .i64 (-1)]) (by simp [results, Try.results39, go_sem]) rfl ⟨by rw [H.out], ?_⟩
      exact ((((Below.refl _ _).alloc (Nat.le_refl _) _).alloc (by simp) _).alloc (by simp; omega) _).drew

theorem l3room_any (a a' : Option Addr) (N : Nt) (cap cap' k : Nat) (at' way : Int) (w : World) (hk : k < N.pcs.length) (hl : 0 ≤ N.pcs[k].len ∧ N.pcs[k].len ≤ 10000000) (ha : 0 ≤ at' ∧ at' ≤ 10000000) (hp : PcsAt w a N.pcs) :
    Calls Try.prog 36 #[.agg #[.slice a N.pcs.length cap, .slice a' N.jts.length cap'], .agg #[.int .i64 k, .int .i64 at', .int .i64 way]] w fun e w' =>
    e = .returned (.int .i64 (roomP N k at' way)) ∧ Below w.heap.size w w' := by
  obtain ⟨b, off, rfl, c0, c1, c2, c3⟩ := hp k hk
  have hblt := cell_lt c0
  have hi : (k : Int) < (N.pcs.length : Int) := by omega
  obtain ⟨hl0, hl1⟩ := hl
  obtain ⟨ha0, ha1⟩ := ha
  have hbW : Below w.heap.size w ((w.alloc (.cells #[.slice (some ⟨b, off, none⟩) N.pcs.length cap, .slice a' N.jts.length cap'] 26)).alloc (.cells #[.int .i64 k, .int .i64 at', .int .i64 way] 29)) := ((Below.refl _ _).alloc (Nat.le_refl _) _).alloc (by simp) _
  clear hp c0 c2 c3
  by_cases h : way = 1
  · subst h
    have H := hide (show roomP N k at' 1 = N.pcs[k].len - at' by simp [roomP, lenAt_nat N k hk])
    go_enter Try.func36, Try.ntmps36
    go_wp2_with fail
    go_quiet (fail)
    go_wp2_with fail
    go_ret
    exact ⟨ret_i H.out.symm, below_drewN hbW _⟩
  · have hb : (way == 1) = false := by rw [beq_eq_false_iff_ne]; exact h
    have H := hide (show roomP N k at' way = at' by simp [roomP, h])
    clear h
    go_enter Try.func36, Try.ntmps36
    go_wp2_with fail
    go_ret
    exact ⟨ret_i H.out.symm, hbW⟩

/-- A list of numbers in memory. -/
def IntsAt (w : World) (a : Option Addr) (xs : List Int) : Prop :=
  ∀ k (_ : k < xs.length), ∃ b off, a = some ⟨b, off, none⟩ ∧ w.cell? ⟨b, off + k, none⟩ = some (.int .i64 xs[k])

theorem IntsAt.later {w w' : World} {a xs} (h : IntsAt w a xs) (hb : Below w.heap.size w w') : IntsAt w' a xs := by
  intro k hk
  obtain ⟨b, off, ha, h1⟩ := h k hk
  exact ⟨b, off, ha, cell_later' hb h1⟩

def lieOk (j : Jt) (x : Int) : Bool := inR x 0 2 && !((x != 0) && (j.kind != 3))
def liesP (js : List Jt) (xs : List Int) : Bool := decide (xs.length = js.length) && (js.zip xs).all (fun z => lieOk z.1 z.2)

theorem liesP_bad {js : List Jt} {xs : List Int} {k : Nat} (hj : k < js.length) (hx : k < xs.length) (h : lieOk js[k] xs[k] = false) : liesP js xs = false := by
  have : (js.zip xs).all (fun z => lieOk z.1 z.2) = false := by
    rw [List.all_eq_false]
    refine ⟨(js[k], xs[k]), ?_, by simp [h]⟩
    rw [List.mem_iff_getElem]
    exact ⟨k, by simp; omega, by simp⟩
  simp [liesP, this]

theorem liesP_good {js : List Jt} {xs : List Int} (hl : xs.length = js.length) (h : ∀ k (hj : k < js.length) (hx : k < xs.length), lieOk js[k] xs[k] = true) : liesP js xs = true := by
  have : (js.zip xs).all (fun z => lieOk z.1 z.2) = true := by
    rw [List.all_eq_true]
    intro z hz
    obtain ⟨k, hk, rfl⟩ := List.getElem_of_mem hz
    simp at hk ⊢
    exact h k (by omega) (by omega)
  simp [liesP, this, hl]

theorem l3lies_any (a a' z : Option Addr) (n cap cap' zc : Nat) (js : List Jt) (xs : List Int) (w : World) (hn : js.length ≤ 1048576) (_hx : xs.length ≤ 1048576) (hj : JtsAt w a' js) (hz : IntsAt w z xs) :
    Calls Try.prog 33 #[.agg #[.slice a n cap, .slice a' js.length cap'], .slice z xs.length zc] w fun e w' =>
    e = .returned (.bool (liesP js xs)) ∧ Below w.heap.size w w' := by
  have hbW : Below w.heap.size w (w.alloc (.cells #[.slice a n cap, .slice a' js.length cap'] 26)) := (Below.refl _ _).alloc (Nat.le_refl _) _
  have HJ := hide (hj.later hbW)
  have HZ := hide (hz.later hbW)
  clear hj hz
  by_cases hlen : xs.length = js.length
  · have hb : ((xs.length : Int) != (js.length : Int)) = false := by rw [hlen]; simp
    have HL := hide hlen
    have hle : js.length ≤ xs.length := by omega
    have hle2 : xs.length ≤ js.length := by omega
    clear hlen
    go_enter Try.func33, Try.ntmps33
    go_wp2_with fail
    go_loop [5, 6, 15] (fun _ _ i => ∃ (k : Nat), k ≤ xs.length ∧ i = .int .i64 k ∧ Hid (∀ u (hj : u < js.length) (hx : u < xs.length), u < k → lieOk js[u] xs[u] = true)) (fun _ _ i => xs.length - (intOf i).toNat)
    case atStart => exact ⟨0, Nat.zero_le _, rfl, fun u hj hx hu => by omega⟩
    case round =>
      obtain ⟨k, hk, rfl, hall⟩ := hrel
      by_cases hlt : k < xs.length
      · have hkj : k < js.length := by omega
        obtain ⟨b, off, rfl, c0⟩ := HZ.out k hlt
        obtain ⟨b2, off2, ea, ec, rfl, d0, d1, d2, _⟩ := HJ.out k hkj
        have hi : (k : Int) < (js.length : Int) := by omega
        clear d1 d2
        cases h1 : inR xs[k] 0 2
        · have H1 := hide h1
          have HB := hide (liesP_bad hkj hlt (by simp [lieOk, h1]))
          clear h1
          go_wp2_with fail
          refine (l1in_any _ _ _ _).mono ?_
          rintro e w1 ⟨rfl, rfl⟩
          rw [H1.out]
          go_wp2_with fail
          go_ret
          exact ⟨ret_b HB.out.symm, hbW⟩
        · have H1 := hide h1
          clear h1
          cases h2 : (xs[k] != 0)
          · have H2 := hide h2
            go_wp2_with fail
            refine (l1in_any _ _ _ _).mono ?_
            rintro e w1 ⟨rfl, rfl⟩
            rw [H1.out]
            go_wp2_with fail
            refine ⟨⟨k + 1, by omega, by go_num, ?_⟩, by simp [intOf]; omega⟩
            intro u hj hx hu
            by_cases e : u = k
            · subst e; simp only [lieOk, H1.out, H2.out]; rfl
            · exact hall.out u hj hx (by omega)
          · have H2 := hide h2
            cases h3 : (js[k].kind != 3)
            · have H3 := hide h3
              go_wp2_with fail
              refine (l1in_any _ _ _ _).mono ?_
              rintro e w1 ⟨rfl, rfl⟩
              rw [H1.out]
              go_wp2_with fail
              refine ⟨⟨k + 1, by omega, by go_num, ?_⟩, by simp [intOf]; omega⟩
              intro u hj hx hu
              by_cases e : u = k
              · subst e; simp only [lieOk, H1.out, H2.out, H3.out]; rfl
              · exact hall.out u hj hx (by omega)
            · have H3 := hide h3
              have HB := hide (liesP_bad hkj hlt (by simp only [lieOk, H1.out, H2.out, H3.out]; rfl))
              go_wp2_with fail
              refine (l1in_any _ _ _ _).mono ?_
              rintro e w1 ⟨rfl, rfl⟩
              rw [H1.out]
              go_wp2_with fail
              go_ret
              exact ⟨ret_b HB.out.symm, hbW⟩
      · have HG := hide (liesP_good HL.out (fun u hj hx => hall.out u hj hx (by omega)))
        go_wp2_with fail
        go_ret
        exact ⟨ret_b HG.out.symm, hbW⟩
  · have hb : ((xs.length : Int) != (js.length : Int)) = true := by rw [bne_iff_ne]; omega
    have HB := hide (show liesP js xs = false by simp [liesP, hlen])
    clear hlen
    go_enter Try.func33, Try.ntmps33
    go_wp2_with fail
    go_ret
    exact ⟨ret_b HB.out.symm, hbW⟩
end Go.Proofs.Yteapmddadieohaa

namespace Go.Proofs.Yteapmddadieohaa
open Go.RowKit
set_option maxHeartbeats 1000000

def goodP (N : Nt) (xs : List Int) (q at' way far : Int) : Bool := decide (netOk N = (0, 0)) && liesP N.jts xs && spotP N q at' way && inR far 0 1000000

theorem l3good_any (a a' z : Option Addr) (N : Nt) (cap cap' zc : Nat) (xs : List Int) (q at' way far : Int) (w : World) (hn : N.pcs.length ≤ 1048576) (hs : ∀ p ∈ N.pcs, p.name.size ≤ 1048576) (hl : N.jts.length ≤ 1048576) (hm : ∀ j ∈ N.jts, j.name.size ≤ 1048576 ∧ j.ends.length ≤ 1048576) (hx : xs.length ≤ 1048576) (hp : PcsAt w a N.pcs) (hj : JtsAt w a' N.jts) (hz : IntsAt w z xs) :
    Calls Try.prog 22 #[.agg #[.slice a N.pcs.length cap, .slice a' N.jts.length cap'], .slice z xs.length zc, .agg #[.int .i64 q, .int .i64 at', .int .i64 way], .int .i64 far] w fun e w' =>
    e = .returned (.bool (goodP N xs q at' way far)) ∧ Below w.heap.size w w' := by
  have HP := hide hp
  have HJ := hide hj
  have HZ := hide hz
  have HM := hide hm
  have HS := hide hs
  clear hp hj hm hs hz
  go_enter Try.func22, Try.ntmps22
  go_wp2_with fail
  have hbW : Below w.heap.size w ((w.alloc (.cells #[.slice a N.pcs.length cap, .slice a' N.jts.length cap'] 26)).alloc (.cells #[.int .i64 q, .int .i64 at', .int .i64 way] 29)) := ((Below.refl _ _).alloc (Nat.le_refl _) _).alloc (by simp) _
  refine (l1ok_any a a' N cap cap' _ hn HS.out hl HM.out (HP.out.later hbW) (HJ.out.later hbW)).mono ?_
  rintro e w1 ⟨rfl, hb1⟩
  have hb2 := hbW.trans (hb1.mono hbW.size)
  obtain ⟨hc, hf⟩ := bcell hb1
  have n0 : w1.cell? ⟨w.heap.size, 0, none⟩ = some (.slice a N.pcs.length cap) := by rw [hc _ _ (by simp; omega)]; simp [go_sem]
  have n1 : w1.cell? ⟨w.heap.size, 1, none⟩ = some (.slice a' N.jts.length cap') := by rw [hc _ _ (by simp; omega)]; simp [go_sem]
  have e0 : w1.cell? ⟨w.heap.size + 1, 0, none⟩ = some (.int .i64 q) := by rw [hc _ _ (by simp)]; simp [go_sem]
  have e1 : w1.cell? ⟨w.heap.size + 1, 1, none⟩ = some (.int .i64 at') := by rw [hc _ _ (by simp)]; simp [go_sem]
  have e2 : w1.cell? ⟨w.heap.size + 1, 2, none⟩ = some (.int .i64 way) := by rw [hc _ _ (by simp)]; simp [go_sem]
  clear hc hf hb1
  cases hr : decide (netOk N = (0, 0))
  · have HR := hide hr
    clear hr
    go_wp2_with fail
    go_ret
    exact ⟨ret_b (by simp only [goodP, HR.out]; rfl), hb2⟩
  have HR := hide hr
  clear hr
  go_wp2_with fail
  refine (l3lies_any _ _ z _ _ _ zc N.jts xs _ hl hx (HJ.out.later hb2) (HZ.out.later hb2)).mono ?_
  rintro e w2 ⟨rfl, hb3⟩
  have hb4 := hb2.trans (hb3.mono hb2.size)
  have n0 := cell_later' hb3 n0
  have n1 := cell_later' hb3 n1
  have e0 := cell_later' hb3 e0
  have e1 := cell_later' hb3 e1
  have e2 := cell_later' hb3 e2
  clear hb3
  cases hr2 : liesP N.jts xs
  · have HR2 := hide hr2
    clear hr2
    go_wp2_with fail
    go_ret
    exact ⟨ret_b (by simp only [goodP, HR.out, HR2.out]; rfl), hb4⟩
  have HR2 := hide hr2
  clear hr2
  go_wp2_with fail
  refine (l3spot_any _ _ N _ _ _ _ _ _ hn (HP.out.later hb4)).mono ?_
  rintro e w3 ⟨rfl, hb5⟩
  have hb6 := hb4.trans (hb5.mono hb4.size)
  clear hb5
  cases hr3 : spotP N q at' way
  · have HR3 := hide hr3
    clear hr3
    go_wp2_with fail
    go_ret
    exact ⟨ret_b (by simp only [goodP, HR.out, HR2.out, HR3.out]; rfl), hb6⟩
  have HR3 := hide hr3
  clear hr3
  go_wp2_with fail
  refine (l1in_any _ _ _ _).mono ?_
  rintro e w4 ⟨rfl, rfl⟩
  go_wp2_with fail
  go_ret
  exact ⟨ret_b (by simp only [goodP, HR.out, HR2.out, HR3.out]; simp), hb6⟩
end Go.Proofs.Yteapmddadieohaa

/- More plain lemmas. Own work. -/
namespace Go.Proofs.Yteapmddadieohaa

def jb3 (n : Nat) (j : Jt) : Bool := !(inR j.kind 1 4) || ((j.ends.length : Int) != j.kind) || j.ends.any (fun e => !endOk n e)
def jnOk (j : Jt) : Bool := if j.kind < 3 then j.name.toList.isEmpty else nm j.name
theorem jtBad3_jb3 {n : Nat} {js : List Jt} {k : Nat} (hk : k < js.length) : jtBad3 n js k = jb3 n js[k] := by rw [jtBad3_eq hk]; rfl
theorem jb3_none {n : Nat} {j : Jt} (h : j.kind < 1 ∨ 4 < j.kind) : jb3 n j = true := by
  have : inR j.kind 1 4 = false := by rw [Bool.eq_false_iff]; simp [inR]; omega
  simp [jb3, this]
theorem jb3_some {n : Nat} {j : Jt} {c : Int} (h : j.kind = c) (h1 : 1 ≤ c) (h4 : c ≤ 4) : jb3 n j = (((j.ends.length : Int) != c) || j.ends.any (fun e => !endOk n e)) := by
  have : inR j.kind 1 4 = true := by simp [inR]; omega
  rw [jb3, this, h]; rfl
theorem jb3_kind {n : Nat} {j : Jt} (h : jb3 n j = false) : 1 ≤ j.kind ∧ j.kind ≤ 4 := by
  simp [jb3, inR] at h; omega
end Go.Proofs.Yteapmddadieohaa

/- impl: the ends of a line, their pieces looked for. Own work. -/
import Derived.Test.YtcodpnkfpmjleaaGreatDoorRiE
import Derived.Deep.AppendLies
import Derived.Shelf.Strings.Search1
import Derived.Shelf.Strings.Search2
import Derived.Shelf.Strings.Cut
import Derived.Shelf.Strings.Runes
import Derived.Shelf.Strings.IndexAny
import Derived.Shelf.Strings.AsciiSet
import Derived.Shelf.Strings.IndexAnyAll
import Derived.Shelf.Strings.SlTrimAscii
import Derived.Test.YtcodpnkfpmjleaaGreatDoorProg
namespace Go.Proofs.YtcodpnkfpmjleaaGreatDoor
open Go.RowKit Go.Maps Go.Joins Go.Sort
set_option maxHeartbeats 4000000
set_option maxRecDepth 100000

/-! ### The numbers of the pieces -/
def ixP (ps : List Pc) (s : ByteArray) : Int := ((pieceIx ⟨ps, []⟩ s).getD 0 : Nat)
def PI (w : World) (b n : Nat) (ps : List Pc) : Prop :=
  ∃ D : DataW Unit, w.ownsMap Tryz.prog 9 (plainElem Tryz.prog 3) b n D ∧ ∀ s : ByteArray, D.atKey (.string s.data.toList) (.lit (.int .i64 0)) = .lit (.int .i64 (ixP ps s)) ∧ Maps.has D (.string s.data.toList) = (pieceIx ⟨ps, []⟩ s).isSome
theorem PI.made (w : World) : PI (w.alloc (.map #[] 0)) w.heap.size 0 [] :=
  ⟨_, World.ownsMap_made w _ _ _, fun _ => ⟨rfl, rfl⟩⟩
theorem PI.of_block {w w' : World} {b n ps} (h : PI w b n ps) (e : w'.heap[b]? = w.heap[b]?) : PI w' b n ps := by
  obtain ⟨D, ⟨es, clock, hb, h2⟩, h3⟩ := h
  exact ⟨D, ⟨es, clock, e.trans hb, h2⟩, h3⟩
theorem PI.lt {w : World} {b n ps} (h : PI w b n ps) : b < w.heap.size := by
  obtain ⟨D, h, _⟩ := h
  exact h.lt
theorem PI.isMap {w : World} {b n ps} (h : PI w b n ps) : ∃ es clock, w.heap[b]? = some (.map es clock) := by
  obtain ⟨D, ⟨es, clock, hb, h2⟩, h3⟩ := h
  exact ⟨es, clock, hb⟩
theorem PI.look {w : World} {b n ps} (h : PI w b n ps) (s : ByteArray) (hs : s.size ≤ maxLen) :
    (Instr.lookup 126 (.map (some b)) (.string s) true).run Tryz.prog w = .ok (.tuple #[.int .i64 (ixP ps s), .bool (pieceIx ⟨ps, []⟩ s).isSome]) w := by
  obtain ⟨D, hown, hD⟩ := h
  obtain ⟨v, pl, hrun, hv⟩ := hown.look_ok lawS Tryz.underlying126 (zeroI _) (plainElem_int Tryz.underlying3 (a := 0) (by decide)) (WideMaps.keyOf_string_mk Tryz.underlying9 hs)
  rw [(hD s).1] at hv
  obtain ⟨c, rfl, hc, _⟩ := plainElem_int_inv Tryz.underlying3 hv
  simp at hc
  rw [hrun, (hD s).2, ← hc.1]
theorem toList_inj {a b : ByteArray} (h : a.toList = b.toList) : a = b := by
  rw [Lib.toList_data, Lib.toList_data] at h
  exact ByteArray.ext (Array.toList_inj.1 h)
theorem pieceIx_add {ps : List Pc} {p : Pc} (hno : (pieceIx ⟨ps, []⟩ p.name).isSome = false) (s : ByteArray) : pieceIx ⟨ps ++ [p], []⟩ s = if s = p.name then some ps.length else pieceIx ⟨ps, []⟩ s := by
  unfold pieceIx at hno ⊢
  dsimp only at hno ⊢
  rw [List.findIdx?_append]
  by_cases e : s = p.name
  · subst e
    rw [Option.isSome_eq_false_iff, Option.isNone_iff_eq_none] at hno
    rw [hno, if_pos rfl]
    simp
  · rw [if_neg e]
    have : (p.name.toList == s.toList) = false := by rw [beq_eq_false_iff_ne]; exact fun h => e (toList_inj h).symm
    cases h : List.findIdx? (fun p => p.name.toList == s.toList) ps with
    | some i => simp
    | none => simp [this]
theorem PI.put {w : World} {b n ps} (h : PI w b n ps) (hn : n < maxLen) (p : Pc) (hs : p.name.size ≤ maxLen) (hl : ps.length ≤ 1048576) (hno : (pieceIx ⟨ps, []⟩ p.name).isSome = false) :
    ∃ w', (Instr.mapUpdate 126 (.map (some b)) (.string p.name) (.int .i64 ps.length)).run Tryz.prog w = .ok () w' ∧ PI w' b (n + 1) (ps ++ [p]) ∧ w.grownBy w' (some b) := by
  obtain ⟨D, hown, hD⟩ := h
  obtain ⟨w', hrun, hown', hg⟩ := hown.update lawS Tryz.underlying126 hn (WideMaps.keyOf_string_mk Tryz.underlying9 hs) (plainElem_int Tryz.underlying3 (a := (ps.length : Int)) (by simp only [Lit.wf, IntKind.min, IntKind.max, IntKind.bits, IntKind.signed, Bool.and_eq_true, decide_eq_true_eq]; simp; omega))
  refine ⟨w', hrun, ⟨_, hown', fun t => ?_⟩, hg⟩
  unfold ixP
  rw [pieceIx_add hno t]
  by_cases e : t = p.name
  · subst e
    rw [atKey_put_same hown.isMap (show WideAt.IsKeyLit (.string _) from trivial), has_put_same hown.isMap (show WideAt.IsKeyLit (.string _) from trivial), if_pos rfl]
    simp
  · have hne : (Lit.string t.data.toList) ≠ .string p.name.data.toList := fun h => e (ByteArray.ext (Array.toList_inj.1 (by simpa using h)))
    rw [atKey_put_other hne, has_put_other hne, if_neg e]
    exact hD t

/-! ### A row of ends that are spelt -/
structure Sl where
  name : ByteArray
  side : Int
def slCells (l : List Sl) : List Value := l.flatMap fun s => [.string s.name, .int .i64 s.side]
theorem slCells_add (l : List Sl) (s : Sl) : slCells (l ++ [s]) = slCells l ++ [.string s.name, .int .i64 s.side] := by simp [slCells]
theorem slCells_at (l : List Sl) : ∀ k (hk : k < l.length), (slCells l)[k * 2]? = some (.string l[k].name) ∧ (slCells l)[k * 2 + 1]? = some (.int .i64 l[k].side) := by
  induction l with
  | nil => intro k hk; simp at hk
  | cons x l ih =>
    intro k hk
    have e : slCells (x :: l) = [.string x.name, .int .i64 x.side] ++ slCells l := rfl
    rw [e]
    match k, hk with
    | 0, _ => exact ⟨rfl, rfl⟩
    | k + 1, hk =>
      obtain ⟨h0, h1⟩ := ih k (by simpa using hk)
      refine ⟨?_, ?_⟩ <;> rw [List.getElem?_append_right (by simp; omega)]
      · rw [show (k + 1) * 2 - [Value.string x.name, .int .i64 x.side].length = k * 2 by simp; omega]; exact h0
      · rw [show (k + 1) * 2 + 1 - [Value.string x.name, .int .i64 x.side].length = k * 2 + 1 by simp; omega]; exact h1
theorem sls_at {w : World} {base : Nat} {v : Value} {l : List Sl} (h : w.ownsRow base 258 2 v l.length (slCells l)) : ∃ z c, v = .slice z l.length c ∧ ∀ k (_ : k < l.length), ∃ g, z = some ⟨g, 0, none⟩ ∧ w.cell? ⟨g, k * 2, none⟩ = some (.string l[k].name) ∧ w.cell? ⟨g, k * 2 + 1, none⟩ = some (.int .i64 l[k].side) := by
  rcases id h.2 with ⟨rfl, h0⟩ | ⟨g, cap, cur, rfl, _⟩
  · exact ⟨none, 0, by rw [h0], fun k hk => by omega⟩
  · refine ⟨_, cap, rfl, fun k hk => ⟨g, rfl, ?_, ?_⟩⟩
    · rw [h.cellAt _ (by omega)]; exact (slCells_at l k hk).1
    · rw [h.cellAt _ (by omega)]; exact (slCells_at l k hk).2
def endS (ps : List Pc) (s : Sl) : Int × Int := (ixP ps s.name, s.side)
theorem endsOf_any (br bp n : Nat) (ps : List Pc) (z : Option Addr) (cz : Nat) (l : List Sl) (line : Int) (w : World) (hl : l.length ≤ 1048576) (hs : ∀ s ∈ l, s.name.size ≤ 1048576) (hc : w.cell? ⟨br, 0, none⟩ = some (.int .i64 line)) (hm : w.cell? ⟨br, 3, none⟩ = some (.map (some bp))) (hP : PI w bp n ps) (hz : ∀ k (_ : k < l.length), ∃ g, z = some ⟨g, 0, none⟩ ∧ w.cell? ⟨g, k * 2, none⟩ = some (.string l[k].name) ∧ w.cell? ⟨g, k * 2 + 1, none⟩ = some (.int .i64 l[k].side)) :
    Calls Tryz.prog 131 #[.pointer (some ⟨br, 0, none⟩), .slice z l.length cz] w fun e w' => (((∀ s ∈ l, (pieceIx ⟨ps, []⟩ s.name).isSome = true) ∧ ∃ v, e = .returned v ∧ w'.ownsRow w.heap.size 75 2 v l.length (endCells (l.map (endS ps)))) ∨ ((∃ s ∈ l, (pieceIx ⟨ps, []⟩ s.name).isSome = false) ∧ e = .panicked (leaveC 3 line))) ∧ Below w.heap.size w w' := by
  obtain ⟨iE, hiE, hz0, hz1, hz2⟩ := info_parts infoEnd
  have HI := hide hiE
  have H0 := hide hz0
  have H1 := hide hz1
  have H2 := hide hz2
  have HC := hide hc
  have HM := hide hm
  have HP := hide hP
  have HZ := hide hz
  have HS := hide hs
  have hlb := cell_lt hc
  clear hiE hz0 hz1 hz2 hc hm hP hz hs
  go_enter Tryz.func131, Tryz.ntmps131
  go_wp2_with fail
  go_loopw [5, 7, 8, 9, 12] (fun q5 _ _ _ q12 wr => ∃ k : Nat, k ≤ l.length ∧ q12 = .int .i64 k ∧ Hid (wr.ownsRow w.heap.size 75 2 q5 k (endCells ((l.take k).map (endS ps)))) ∧ Hid (Below w.heap.size w wr) ∧ Hid (∀ s ∈ l.take k, (pieceIx ⟨ps, []⟩ s.name).isSome = true)) (fun _ _ _ _ q12 _ => l.length - (intOf q12).toNat)
  case atStart => exact ⟨0, Nat.zero_le _, rfl, World.ownsRow_nil _ _ _ _, Below.refl _ _, fun s hs => by simp at hs⟩
  case round =>
    obtain ⟨k, hk, rfl, HO, HB, HY⟩ := hrel
    rename World => wr
    by_cases hlt : k < l.length
    · have hki : (k : Int) < (l.length : Int) := by omega
      obtain ⟨g, rfl, z0, z1⟩ := HZ.out k hlt
      obtain ⟨s, hs⟩ : ∃ s, l[k] = s := ⟨_, rfl⟩
      rw [hs] at z0 z1
      have HSM := hide (show s ∈ l from hs ▸ List.getElem_mem hlt)
      have hsz := HS.out s HSM.out
      obtain ⟨name, side⟩ := s
      dsimp only at z0 z1 hsz
      have HSK := hide hs
      have y0 := cell_later' HB.out z0
      have y1 := cell_later' HB.out z1
      have m0 := cell_later' HB.out HC.out
      have m3 := cell_later' HB.out HM.out
      have HPW := hide (HP.out.of_block (HB.out.block bp HP.out.lt))
      have hly := cell_lt y0
      have hlm := cell_lt m0
      have hBs := HB.out.size
      have hA := (Below.refl wr.heap.size wr).alloc (Nat.le_refl _) (.cells #[.string name, .int .i64 side] 258)
      have HPA := hide (HPW.out.of_block (hA.block bp HPW.out.lt))
      have a0 := cell_later' hA m0
      have a3 := cell_later' hA m3
      have x0 := new_cell wr #[.string name, .int .i64 side] 258 0 _ rfl
      have x1 := new_cell wr #[.string name, .int .i64 side] 258 1 _ rfl
      have HBA := hide (HB.out.trans (hA.mono HB.out.size))
      have HOA := hide (owns_later' HO.out hA)
      have hlk := HPA.out.look name (by unfold maxLen; omega)
      have hszA : (wr.alloc (.cells #[.string name, .int .i64 side] 258)).heap.size = wr.heap.size + 1 := by simp
      clear z0 z1 m0 m3 hs hA HPW HB HO
      go_upto_region 5 with fail
      clear y0 y1 hly
      generalize wr.alloc (.cells #[.string name, .int .i64 side] 258) = w1 at *
      have hlm1 : br < w1.heap.size := by omega
      have hlw1 : wr.heap.size < w1.heap.size := by omega
      clear hszA
      have hlkd := (HPA.out.of_block (w' := w1.drew) rfl).look name (by unfold maxLen; omega)
      have HBD := hide (HBA.out.trans (((Below.refl w1.heap.size w1).drew).mono HBA.out.size))
      have HOD := hide (owns_later' HOA.out ((Below.refl w1.heap.size w1).drew))
      have d0 : w1.drew.cell? ⟨br, 0, none⟩ = some (.int .i64 line) := a0
      have d1 : w1.drew.cell? ⟨wr.heap.size, 1, none⟩ = some (.int .i64 side) := x1
      have hBs1 : w.heap.size ≤ w1.heap.size := by omega
      go_cut [8, 9] from 26 to 36 (fun s8 s9 wx => s8 = .int .i64 (ixP ps name) ∧ s9 = .bool (pieceIx ⟨ps, []⟩ name).isSome ∧ wx = w1.drew)
      case first =>
        go_region_law (fail)
        all_goals
          go_wp2_with fail
          go_meet
          case rel => exact ⟨rfl, rfl, rfl⟩
      case rest =>
        obtain ⟨rfl, rfl, hwx⟩ := hcut
        subst hwx
        clear hlk hlkd x0 a0 a3 HOA HBA HPA
        have hlm2 : br < w1.drew.heap.size := hlm1
        have hlw2 : wr.heap.size < w1.drew.heap.size := hlw1
        have hBs2 : w.heap.size ≤ w1.drew.heap.size := hBs1
        clear hlm1 hlw1 hBs1 x1
        generalize w1.drew = w2 at *
        cases hsm : (pieceIx ⟨ps, []⟩ name).isSome with
        | false =>
          have HR := hide (show ∃ s ∈ l, (pieceIx ⟨ps, []⟩ s.name).isSome = false from ⟨_, HSM.out, hsm⟩)
          clear hsm
          go_wp2_with (go_at_call 63; refine (want_noR br 3 line _ d0).mono ?_; rintro e w3 ⟨rfl, hw⟩; subst hw)
          exact ⟨rfl, .inr ⟨HR.out, rfl⟩, HBD.out⟩
        | true =>
          have HTK := hide (show l.take (k + 1) = l.take k ++ [⟨name, side⟩] by rw [List.take_succ_eq_append_getElem hlt, HSK.out])
          have HY2 : Hid (∀ s ∈ l.take (k + 1), (pieceIx ⟨ps, []⟩ s.name).isSome = true) := fun s hs => by
            rw [HTK.out] at hs
            rcases List.mem_append.1 hs with hs | hs
            · exact HY.out s hs
            · rw [List.mem_singleton.1 hs]; exact hsm
          obtain ⟨zo, co, rfl⟩ : ∃ z c, u5 = .slice z k c := by
            rcases HOD.out.2 with ⟨h, h0⟩ | ⟨g, cap, cur, h, _⟩
            · exact ⟨none, 0, by rw [h, h0]⟩
            · exact ⟨_, cap, h⟩
          have hml : k + 1 ≤ maxLen := by unfold maxLen; omega
          have HCE := hide (show endCells ((l.take (k + 1)).map (endS ps)) = endCells ((l.take k).map (endS ps)) ++ [.int .i64 (ixP ps name), .int .i64 side] by rw [HTK.out, List.map_append]; simp [endCells, endS])
          clear hsm
          generalize ixP ps name = ix at *
          generalize (l.take k).map (endS ps) = pre at *
          go_wp2_with (first
            | (go_at_call 63; refine (want_ok _ _ _).mono ?_; rintro e w3 ⟨⟨v3, rfl⟩, hw⟩; subst hw)
            | (at_builtin; (refine wpList_append_lies _ rfl _ _ _ rfl w.heap.size 75 iE _ 2 16 Tryz.underlying67 HI.out H0.out H1.out H2.out rfl (by omega) _ k (endCells pre) rfl (HOD.out.alloc _) ⟨_, 0, none⟩ 1 1 [.int .i64 ix, .int .i64 side] rfl rfl (newsAt rfl) (by simp [Value.oneCell']) (by omega) hml (by omega) (by simp; omega) _ rfl ?_); intro g2 cp2 w7 hown2 hgrow2 hgg _; have HO7 := hide hown2; have HG7 := hide hgrow2))
          all_goals
            have HBN := hide ((HBD.out.alloc HBD.out.size (.cells #[.int .i64 ix, .int .i64 side] 75)).grown HG7.out (by have := HBD.out.size; simp; omega) (fun k e => (HOD.out.lt k e).1))
            have HON : Hid (w7.ownsRow w.heap.size 75 2 (.slice (some ⟨g2, 0, none⟩) (k + 1) cp2) (k + 1) (endCells ((l.take (k + 1)).map (endS ps)))) := by
              show World.ownsRow _ _ _ _ _ _ _
              rw [HCE.out]
              exact HO7.out
            go_wp2_with fail
            go_roundw
            case rel => exact ⟨k + 1, by omega, by go_num, HON, HBN, HY2⟩
            case measure => simp [intOf]; omega
    · obtain rfl : k = l.length := by omega
      have hO' := HO.out
      have hY' := HY.out
      rw [List.take_length] at hO' hY'
      have HO' := hide hO'
      have HY' := hide hY'
      clear hO' hY' hlt hk
      go_wp2_with fail
      go_ret
      exact ⟨.inl ⟨HY'.out, _, rfl, HO'.out⟩, HB.out⟩
end Go.Proofs.YtcodpnkfpmjleaaGreatDoor

/- The library's contracts, laid at this dump in plain words. -/
namespace Go.Proofs
open Go.Shelf
def Tryz.lays161_ren : Go.Shelf.Ren := ⟨fun | 161 => 127 | 231 => 148 | 227 => 149 | 233 => 150 | 235 => 151 | 228 => 154 | 197 => 123 | 151 => 169 | 260 => 145 | 152 => 152 | 137 => 170 | 119 => 171 | 224 => 167 | 225 => 166 | 217 => 165 | 266 => 175 | n => n, fun | 9 => 9 | 4 => 4 | 3 => 3 | 5 => 5 | 117 => 252 | 116 => 251 | 0 => 0 | 124 => 255 | 105 => 226 | 21 => 21 | 119 => 265 | 46 => 210 | 139 => 268 | 138 => 267 | n => n, fun | 3 => 3 | 4 => 4 | n => n⟩
theorem Tryz.lays161 : Go.Proofs.Lays.n161 Tryz.prog Tryz.lays161_ren := {
  mixed := by kernel_rfl
  f119 := Tryz.func171.trans (congrArg some (by kernel_rfl))
  f137 := Tryz.func170.trans (congrArg some (by kernel_rfl))
  f151 := Tryz.func169.trans (congrArg some (by kernel_rfl))
  f152 := Tryz.func152.trans (congrArg some (by kernel_rfl))
  f161 := Tryz.func127.trans (congrArg some (by kernel_rfl))
  f197 := Tryz.func123.trans (congrArg some (by kernel_rfl))
  f217 := Tryz.func165.trans (congrArg some (by kernel_rfl))
  f224 := Tryz.func167.trans (congrArg some (by kernel_rfl))
  f225 := Tryz.func166.trans (congrArg some (by kernel_rfl))
  f227 := Tryz.func149.trans (congrArg some (by kernel_rfl))
  f228 := Tryz.func154.trans (congrArg some (by kernel_rfl))
  f231 := Tryz.func148.trans (congrArg some (by kernel_rfl))
  f233 := Tryz.func150.trans (congrArg some (by kernel_rfl))
  f235 := Tryz.func151.trans (congrArg some (by kernel_rfl))
  f260 := Tryz.func145.trans (congrArg some (by kernel_rfl))
  f266 := Tryz.func175.trans (congrArg some (by kernel_rfl))
  t0 := Tryz.underlying0
  a0 := Tryz.isAgg0
  z0 := Tryz.sizeOf0
  v0 := Tryz.zeroValue0
  t3 := Tryz.underlying3
  a3 := Tryz.isAgg3
  z3 := Tryz.sizeOf3
  v3 := Tryz.zeroValue3
  t4 := Tryz.underlying4
  a4 := Tryz.isAgg4
  z4 := Tryz.sizeOf4
  v4 := Tryz.zeroValue4
  t5 := Tryz.underlying5
  a5 := Tryz.isAgg5
  z5 := Tryz.sizeOf5
  v5 := Tryz.zeroValue5
  t9 := Tryz.underlying9
  a9 := Tryz.isAgg9
  z9 := Tryz.sizeOf9
  v9 := Tryz.zeroValue9
  t21 := Tryz.underlying21
  a21 := Tryz.isAgg21
  z21 := Tryz.sizeOf21
  v21 := Tryz.zeroValue21
  t46 := Tryz.underlying210
  a46 := Tryz.isAgg210
  z46 := Tryz.sizeOf210
  v46 := Tryz.zeroValue210
  t105 := Tryz.underlying226
  a105 := Tryz.isAgg226
  z105 := Tryz.sizeOf226
  v105 := Tryz.zeroValue226
  t116 := Tryz.underlying251
  a116 := Tryz.isAgg251
  z116 := Tryz.sizeOf251
  t117 := Tryz.underlying252
  a117 := Tryz.isAgg252
  z117 := Tryz.sizeOf252
  v117 := Tryz.zeroValue252
  t119 := Tryz.underlying265
  a119 := Tryz.isAgg265
  z119 := Tryz.sizeOf265
  t124 := Tryz.underlying255
  a124 := Tryz.isAgg255
  z124 := Tryz.sizeOf255
  v124 := Tryz.zeroValue255
  t138 := Tryz.underlying267
  a138 := Tryz.isAgg267
  z138 := Tryz.sizeOf267
  v138 := Tryz.zeroValue267
  t139 := Tryz.underlying268
  a139 := Tryz.isAgg268
  z139 := Tryz.sizeOf268
  v139 := Tryz.zeroValue268
  g3 := by kernel_rfl
  g4 := by kernel_rfl }
def Tryz.lays143_ren : Go.Shelf.Ren := ⟨fun | 143 => 124 | 219 => 146 | 217 => 165 | 225 => 166 | 224 => 167 | 267 => 168 | 266 => 175 | 314 => 176 | n => n, fun | 9 => 9 | 3 => 3 | 4 => 4 | 5 => 5 | 46 => 210 | 146 => 273 | 51 => 262 | n => n, fun | 1 => 1 | n => n⟩
theorem Tryz.lays143 : Go.Proofs.Lays.n143 Tryz.prog Tryz.lays143_ren := {
  mixed := by kernel_rfl
  f143 := Tryz.func124.trans (congrArg some (by kernel_rfl))
  f217 := Tryz.func165.trans (congrArg some (by kernel_rfl))
  f219 := Tryz.func146.trans (congrArg some (by kernel_rfl))
  f224 := Tryz.func167.trans (congrArg some (by kernel_rfl))
  f225 := Tryz.func166.trans (congrArg some (by kernel_rfl))
  f266 := Tryz.func175.trans (congrArg some (by kernel_rfl))
  f267 := Tryz.func168.trans (congrArg some (by kernel_rfl))
  f314 := Tryz.func176.trans (congrArg some (by kernel_rfl))
  t3 := Tryz.underlying3
  a3 := Tryz.isAgg3
  z3 := Tryz.sizeOf3
  v3 := Tryz.zeroValue3
  t4 := Tryz.underlying4
  a4 := Tryz.isAgg4
  z4 := Tryz.sizeOf4
  v4 := Tryz.zeroValue4
  t5 := Tryz.underlying5
  a5 := Tryz.isAgg5
  z5 := Tryz.sizeOf5
  v5 := Tryz.zeroValue5
  t9 := Tryz.underlying9
  a9 := Tryz.isAgg9
  z9 := Tryz.sizeOf9
  v9 := Tryz.zeroValue9
  t46 := Tryz.underlying210
  a46 := Tryz.isAgg210
  z46 := Tryz.sizeOf210
  v46 := Tryz.zeroValue210
  t51 := Tryz.underlying262
  a51 := Tryz.isAgg262
  z51 := Tryz.sizeOf262
  v51 := Tryz.zeroValue262
  t146 := Tryz.underlying273
  a146 := Tryz.isAgg273
  z146 := Tryz.sizeOf273
  v146 := Tryz.zeroValue273
  g1 := by kernel_rfl }
def Tryz.lays145_ren : Go.Shelf.Ren := ⟨fun | 145 => 126 | 220 => 147 | 219 => 146 | 217 => 165 | 225 => 166 | 224 => 167 | 267 => 168 | 266 => 175 | 314 => 176 | n => n, fun | 9 => 9 | 4 => 4 | 59 => 229 | 3 => 3 | 5 => 5 | 46 => 210 | 146 => 273 | 51 => 262 | n => n, fun | 1 => 1 | n => n⟩
theorem Tryz.lays145 : Go.Proofs.Lays.n145 Tryz.prog Tryz.lays145_ren := {
  mixed := by kernel_rfl
  f145 := Tryz.func126.trans (congrArg some (by kernel_rfl))
  f217 := Tryz.func165.trans (congrArg some (by kernel_rfl))
  f219 := Tryz.func146.trans (congrArg some (by kernel_rfl))
  f220 := Tryz.func147.trans (congrArg some (by kernel_rfl))
  f224 := Tryz.func167.trans (congrArg some (by kernel_rfl))
  f225 := Tryz.func166.trans (congrArg some (by kernel_rfl))
  f266 := Tryz.func175.trans (congrArg some (by kernel_rfl))
  f267 := Tryz.func168.trans (congrArg some (by kernel_rfl))
  f314 := Tryz.func176.trans (congrArg some (by kernel_rfl))
  t3 := Tryz.underlying3
  a3 := Tryz.isAgg3
  z3 := Tryz.sizeOf3
  v3 := Tryz.zeroValue3
  t4 := Tryz.underlying4
  a4 := Tryz.isAgg4
  z4 := Tryz.sizeOf4
  v4 := Tryz.zeroValue4
  t5 := Tryz.underlying5
  a5 := Tryz.isAgg5
  z5 := Tryz.sizeOf5
  v5 := Tryz.zeroValue5
  t9 := Tryz.underlying9
  a9 := Tryz.isAgg9
  z9 := Tryz.sizeOf9
  v9 := Tryz.zeroValue9
  t46 := Tryz.underlying210
  a46 := Tryz.isAgg210
  z46 := Tryz.sizeOf210
  v46 := Tryz.zeroValue210
  t51 := Tryz.underlying262
  a51 := Tryz.isAgg262
  z51 := Tryz.sizeOf262
  v51 := Tryz.zeroValue262
  t59 := Tryz.underlying229
  a59 := Tryz.isAgg229
  z59 := Tryz.sizeOf229
  v59 := Tryz.zeroValue229
  t146 := Tryz.underlying273
  a146 := Tryz.isAgg273
  z146 := Tryz.sizeOf273
  v146 := Tryz.zeroValue273
  g1 := by kernel_rfl }
def Tryz.lays153_ren : Go.Shelf.Ren := ⟨fun | 153 => 128 | 152 => 152 | 226 => 153 | 227 => 149 | 228 => 154 | 137 => 170 | 119 => 171 | 224 => 167 | 225 => 166 | 217 => 165 | 266 => 175 | n => n, fun | 9 => 9 | 3 => 3 | 4 => 4 | 5 => 5 | 21 => 21 | 117 => 252 | 116 => 251 | 0 => 0 | 46 => 210 | 124 => 255 | n => n, fun | n => n⟩
theorem Tryz.lays153 : Go.Proofs.Lays.n153 Tryz.prog Tryz.lays153_ren := {
  mixed := by kernel_rfl
  f119 := Tryz.func171.trans (congrArg some (by kernel_rfl))
  f137 := Tryz.func170.trans (congrArg some (by kernel_rfl))
  f152 := Tryz.func152.trans (congrArg some (by kernel_rfl))
  f153 := Tryz.func128.trans (congrArg some (by kernel_rfl))
  f217 := Tryz.func165.trans (congrArg some (by kernel_rfl))
  f224 := Tryz.func167.trans (congrArg some (by kernel_rfl))
  f225 := Tryz.func166.trans (congrArg some (by kernel_rfl))
  f226 := Tryz.func153.trans (congrArg some (by kernel_rfl))
  f227 := Tryz.func149.trans (congrArg some (by kernel_rfl))
  f228 := Tryz.func154.trans (congrArg some (by kernel_rfl))
  f266 := Tryz.func175.trans (congrArg some (by kernel_rfl))
  t0 := Tryz.underlying0
  a0 := Tryz.isAgg0
  z0 := Tryz.sizeOf0
  v0 := Tryz.zeroValue0
  t3 := Tryz.underlying3
  a3 := Tryz.isAgg3
  z3 := Tryz.sizeOf3
  v3 := Tryz.zeroValue3
  t4 := Tryz.underlying4
  a4 := Tryz.isAgg4
  z4 := Tryz.sizeOf4
  v4 := Tryz.zeroValue4
  t5 := Tryz.underlying5
  a5 := Tryz.isAgg5
  z5 := Tryz.sizeOf5
  v5 := Tryz.zeroValue5
  t9 := Tryz.underlying9
  a9 := Tryz.isAgg9
  z9 := Tryz.sizeOf9
  v9 := Tryz.zeroValue9
  t21 := Tryz.underlying21
  a21 := Tryz.isAgg21
  z21 := Tryz.sizeOf21
  v21 := Tryz.zeroValue21
  t46 := Tryz.underlying210
  a46 := Tryz.isAgg210
  z46 := Tryz.sizeOf210
  v46 := Tryz.zeroValue210
  t116 := Tryz.underlying251
  a116 := Tryz.isAgg251
  z116 := Tryz.sizeOf251
  t117 := Tryz.underlying252
  a117 := Tryz.isAgg252
  z117 := Tryz.sizeOf252
  v117 := Tryz.zeroValue252
  t124 := Tryz.underlying255
  a124 := Tryz.isAgg255
  z124 := Tryz.sizeOf255
  v124 := Tryz.zeroValue255 }
end Go.Proofs

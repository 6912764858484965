/- The heap of trails: sink. Own work. -/
import Derived.Test.YtijdigdcmjdooaaGreatMxAS
import Derived.Deep.RegionLaw
import Derived.Deep.AppendLies
namespace Go.Proofs.YtijdigdcmjdooaaGreat
open Go.RowKit Go.Sort
set_option maxHeartbeats 8000000
set_option maxRecDepth 100000

/-- The least of a place and those below it, as far as they were looked at. -/
def LeastTo (l : List It) (n i b le : Nat) : Prop := le < n ∧ (le = i ∨ ((le - 1) / 2 = i ∧ 0 < le ∧ le < b)) ∧ leI (itF l le) (itF l i) ∧ ∀ j, 0 < j → j < n → (j - 1) / 2 = i → j < b → leI (itF l le) (itF l j)
theorem least_start (l : List It) {n i : Nat} (hi : i < n) : LeastTo l n i (2 * i + 1) i :=
  ⟨hi, .inl rfl, leW_refl _, fun j h0 h1 h2 h3 => by omega⟩
theorem least_keep {l : List It} {n i b le : Nat} (h : LeastTo l n i b le) (hb : leI (itF l le) (itF l b)) : LeastTo l n i (b + 1) le :=
  ⟨h.1, h.2.1.imp id (fun h => ⟨h.1, h.2.1, by omega⟩), h.2.2.1, fun j h0 h1 h2 h3 => by
    by_cases e : j = b
    · subst e; exact hb
    · exact h.2.2.2 j h0 h1 h2 (by omega)⟩
theorem least_new {l : List It} {n i b le : Nat} (h : LeastTo l n i b le) (hbn : b < n) (hbi : (b - 1) / 2 = i) (hb0 : 0 < b) (hb : leI (itF l b) (itF l le)) : LeastTo l n i (b + 1) b :=
  ⟨hbn, .inr ⟨hbi, hb0, by omega⟩, leI_trans _ _ _ hb h.2.2.1, fun j h0 h1 h2 h3 => by
    by_cases e : j = b
    · subst e; exact leW_refl _
    · exact leI_trans _ _ _ hb (h.2.2.2 j h0 h1 h2 (by omega))⟩

theorem sink_any (B base g cap n i0 : Nat) (l : List It) (w : World) (h : HpAt w B base (.slice (some ⟨g, 0, none⟩) n cap) n l) (hi : i0 < n) (hdn : HeapDown leI (itF l) n i0) :
    Calls Tryz.prog 129 #[.pointer (some ⟨B, 0, none⟩), .int .i64 i0] w fun e w' =>
    e = .returned (.tuple #[]) ∧ ∃ l', HpAt w' B base (.slice (some ⟨g, 0, none⟩) n cap) n l' ∧ (∀ x, x ∈ l' ↔ x ∈ l) ∧ HeapOk leI (itF l') n ∧ Mid g (g + 1) w w' := by
  have HH := hide h
  have HU := hide hdn
  have hfew := h.few
  clear h hdn
  go_enter Tryz.func129, Tryz.ntmps129
  go_wp2_with fail
  go_loopw [1, 4, 5] (fun s1 _ _ wr => ∃ (k : Nat) (m : List It), s1 = .int .i64 k ∧ k < n ∧ Hid (HpAt wr B base (.slice (some ⟨g, 0, none⟩) n cap) n m) ∧ Hid (∀ x, x ∈ m ↔ x ∈ l) ∧ Hid (HeapDown leI (itF m) n k) ∧ Hid (Mid g (g + 1) w wr)) (fun s1 _ _ _ => n - (intOf s1).toNat)
  case atStart => exact ⟨i0, l, rfl, hi, HH.out, fun x => Iff.rfl, HU.out, Mid.refl _ _ _⟩
  case round =>
    obtain ⟨k, m, rfl, hk, HHR, HMEM, HUR, HMID⟩ := hrel
    go_wp2_with fail
    go_loopw [4, 5] (fun s4 s5 wx => ∃ (le b : Nat), s4 = .int .i64 le ∧ s5 = .int .i64 b ∧ 2 * k + 1 ≤ b ∧ b ≤ 2 * k + 3 ∧ Hid (LeastTo m n k b le) ∧ Hid (Below wr.heap.size wr wx)) (fun _ s5 _ => 2 * k + 3 - (intOf s5).toNat)
    case atStart => exact ⟨k, 2 * k + 1, rfl, by go_num, by omega, by omega, least_start m hk, Below.refl _ _⟩
    case round =>
      obtain ⟨le, b, rfl, rfl, hb1, hb2, HLT, HBX⟩ := hrel
      rename World => wx
      have HHX := hide (HHR.out.later HBX.out)
      have HMX := hide (HMID.out.later HBX.out)
      have hlen := HLT.out.1
      have c1 := HHX.out.c1
      by_cases hb3 : b ≤ 2 * k + 2
      · have hb3i : (b : Int) ≤ 2 * (k : Int) + 2 := by omega
        by_cases hbn : b < n
        · have hbni : (b : Int) < (n : Int) := by omega
          have hbm : b < m.length := by rw [HHX.out.len]; exact hbn
          have hlem : le < m.length := by rw [HHX.out.len]; omega
          have hlei : (le : Int) < (n : Int) := by omega
          have HKEEP := hide (show leI m[le] m[b] → LeastTo m n k (b + 1) le from fun h => least_keep HLT.out (by rw [itF_at hlem, itF_at hbm]; exact h))
          have HNEW := hide (show leI m[b] m[le] → LeastTo m n k (b + 1) b from fun h => least_new HLT.out hbn (by omega) (by omega) (by rw [itF_at hlem, itF_at hbm]; exact h))
          obtain ⟨r1, r2, _, hsk⟩ := HHX.out.at hbm
          obtain ⟨r3, r4, _, hsp⟩ := HHX.out.at hlem
          have c0 := HHX.out.c0
          generalize m[b] = ik at *
          generalize m[le] = ip at *
          obtain ⟨⟨kf, ks⟩, kz, kc⟩ := ik
          obtain ⟨⟨pf, ps⟩, pz, pc⟩ := ip
          dsimp only at *
          have k0 := cell_regrown c0
          have k1 := cell_regrown c1
          have k2 := cell_regrown r1
          have k3 := cell_regrown r2
          have k4 := cell_regrown r3
          have k5 := cell_regrown r4
          have HOC := hide (ordP_cmp ⟨kf, ks⟩ ⟨pf, ps⟩)
          have HORD := hide (show ∀ d os, _ from order_q kz pz kc pc ⟨kf, ks⟩ ⟨pf, ps⟩ wx hsk.2 hsk.1.1 hsp.1.1)
          generalize ordP ⟨kf, ks⟩ ⟨pf, ps⟩ = oc at *
          clear hsk hsp c0 r1 r2 r3 r4
          go_upto_region 4 with fail
          refine wp_region_quiet_below (by kernel_rfl) (by kernel_rfl) ?_
          repeat (go_big_quiet_step (first | exact HORD.out _ _))
          refine wpQuiet_nil ?_
          intro _ hw'
          obtain ⟨⟨dq, osq⟩, hw''⟩ := hw'
          subst hw''
          have hB2 := below_regrown wx dq osq
          have HB3 := hide (HBX.out.trans (hB2.mono HBX.out.size))
          dsimp only
          by_cases hlt : oc < 0
          · have HL2 := hide (HNEW.out (leW_of_less ((HOC.out.1).1 hlt)))
            go_wp2_with fail
            go_roundw
            case rel => exact ⟨b, b + 1, rfl, by go_num, by omega, by omega, HL2, HB3⟩
            case measure => simp [intOf]; omega
          · have HL2 := hide (HKEEP.out (by
              show lessW ⟨kf, ks⟩ ⟨pf, ps⟩ = false
              cases hl : lessW ⟨kf, ks⟩ ⟨pf, ps⟩
              · rfl
              · exact absurd ((HOC.out.1).2 hl) hlt))
            go_wp2_with fail
            go_roundw
            case rel => exact ⟨le, b + 1, rfl, by go_num, by omega, by omega, HL2, HB3⟩
            case measure => simp [intOf]; omega
        · have hbni : ¬ (b : Int) < (n : Int) := by omega
          have HALL := hide (show ∀ j, 0 < j → j < n → (j - 1) / 2 = k → leI (itF m le) (itF m j) from fun j h0 h1 h2 => HLT.out.2.2.2 j h0 h1 h2 (by omega))
          by_cases hlk : le = k
          · subst hlk
            have HF := hide (heapDown_done HUR.out HALL.out)
            go_wp2_with fail
            exact bodyPost_ret (v := .tuple #[]) (by simp [results, Tryz.results129, go_sem]) rfl ⟨rfl, m, HHX.out, HMEM.out, HF.out, HMX.out⟩
          · have q0 : (le == k) = false := by rw [beq_eq_false_iff_ne]; exact hlk
            have q1 : ((le : Int) == (k : Int)) = false := by rw [beq_eq_false_iff_ne]; omega
            have hq3 := HLT.out.2.1.resolve_left hlk
            have hlem : le < m.length := by rw [HHX.out.len]; omega
            have hkm : k < m.length := by rw [HHX.out.len]; exact hk
            have HUK := hide (show HeapDown leI (itF (swapL m le k)) n le by
              rw [swapL_f m hlem hkm hlk]
              exact heapDown_swap HUR.out hq3.2.1 hlen hq3.1 HLT.out.2.2.1 HALL.out)
            have HMS := hide (fun x => (swapL_mem m hlem hkm x).trans (HMEM.out x))
            have hbl := base_le HHX.out.own
            have hlo := HHX.out.lo
            have hsw := HHX.out.swap hlem hkm
            obtain ⟨r1, r2, fz, _⟩ := HHX.out.at hkm
            obtain ⟨r3, r4, _, _⟩ := HHX.out.at hlem
            have c1 := HHX.out.c1
            generalize m[k] = ik at *
            generalize m[le] = ip at *
            obtain ⟨⟨kf, ks⟩, kz, kc⟩ := ik
            obtain ⟨⟨pf, ps⟩, pz, pc⟩ := ip
            dsimp only at *
            have HSW := hide hsw
            have hki : (k : Int) < (n : Int) := by omega
            have hpi : (le : Int) < (n : Int) := by omega
            have z1 := fz (le * 2)
            have z2 := fz (le * 2 + 1)
            have z3 := fz (k * 2)
            have z4 := fz (k * 2 + 1)
            have hlk2 : k < le := by omega
            clear hsw fz hq3 hlk
            go_upto_region 7 with fail
            go_region
            all_goals
              go_wp2_with fail
              go_roundw
              case rel => exact ⟨le, swapL m le k, rfl, hlen, HSW.out.1.later ((Below.refl _ _).drew), HMS.out, HUK.out, (HMX.out.trans HSW.out.2).later ((Below.refl _ _).drew)⟩
              case measure => simp [intOf]; omega
      · have hb3i : ¬ (b : Int) ≤ 2 * (k : Int) + 2 := by omega
        have HALL := hide (show ∀ j, 0 < j → j < n → (j - 1) / 2 = k → leI (itF m le) (itF m j) from fun j h0 h1 h2 => HLT.out.2.2.2 j h0 h1 h2 (by omega))
        by_cases hlk : le = k
        · subst hlk
          have HF := hide (heapDown_done HUR.out HALL.out)
          go_wp2_with fail
          exact bodyPost_ret (v := .tuple #[]) (by simp [results, Tryz.results129, go_sem]) rfl ⟨rfl, m, HHX.out, HMEM.out, HF.out, HMX.out⟩
        · have q0 : (le == k) = false := by rw [beq_eq_false_iff_ne]; exact hlk
          have q1 : ((le : Int) == (k : Int)) = false := by rw [beq_eq_false_iff_ne]; omega
          have hq3 := HLT.out.2.1.resolve_left hlk
          have hlem : le < m.length := by rw [HHX.out.len]; omega
          have hkm : k < m.length := by rw [HHX.out.len]; exact hk
          have HUK := hide (show HeapDown leI (itF (swapL m le k)) n le by
            rw [swapL_f m hlem hkm hlk]
            exact heapDown_swap HUR.out hq3.2.1 hlen hq3.1 HLT.out.2.2.1 HALL.out)
          have HMS := hide (fun x => (swapL_mem m hlem hkm x).trans (HMEM.out x))
          have hbl := base_le HHX.out.own
          have hlo := HHX.out.lo
          have hsw := HHX.out.swap hlem hkm
          obtain ⟨r1, r2, fz, _⟩ := HHX.out.at hkm
          obtain ⟨r3, r4, _, _⟩ := HHX.out.at hlem
          have c1 := HHX.out.c1
          generalize m[k] = ik at *
          generalize m[le] = ip at *
          obtain ⟨⟨kf, ks⟩, kz, kc⟩ := ik
          obtain ⟨⟨pf, ps⟩, pz, pc⟩ := ip
          dsimp only at *
          have HSW := hide hsw
          have hki : (k : Int) < (n : Int) := by omega
          have hpi : (le : Int) < (n : Int) := by omega
          have z1 := fz (le * 2)
          have z2 := fz (le * 2 + 1)
          have z3 := fz (k * 2)
          have z4 := fz (k * 2 + 1)
          have hlk2 : k < le := by omega
          clear hsw fz hq3 hlk
          go_upto_region 7 with fail
          go_region
          all_goals
            go_wp2_with fail
            go_roundw
            case rel => exact ⟨le, swapL m le k, rfl, hlen, HSW.out.1.later ((Below.refl _ _).drew), HMS.out, HUK.out, (HMX.out.trans HSW.out.2).later ((Below.refl _ _).drew)⟩
            case measure => simp [intOf]; omega
end Go.Proofs.YtijdigdcmjdooaaGreat

/- The heap of trails: push, pop. Own work. -/
namespace Go.Proofs.YtijdigdcmjdooaaGreat
open Go.RowKit Go.Sort
set_option maxHeartbeats 8000000
set_option maxRecDepth 100000

theorem infoTrail : (Tryz.prog.info? 101).map (fun i => (i.zero, i.size, i.bytes)) = some (some (.agg #[.int .i64 0, .slice none 0 0]), 2, 32) := by kernel_rfl
/-- Of the blocks that stood only the heap's own and its row's have turned. -/
structure Kept2 (B : Nat) (og : Option Nat) (w w' : World) : Prop where
  os : w'.os = w.os
  tape : w'.tape = w.tape
  output : w'.output = w.output
  size : w.heap.size ≤ w'.heap.size
  block : ∀ k, k < w.heap.size → k ≠ B → some k ≠ og → w'.heap[k]? = w.heap[k]?
theorem Kept2.refl (B : Nat) (og : Option Nat) (w : World) : Kept2 B og w w := ⟨rfl, rfl, rfl, Nat.le_refl _, fun _ _ _ _ => rfl⟩
/-- The row is the one that it was, or a new one. -/
def NewOwn (w : World) (og og' : Option Nat) : Prop := og' = og ∨ ∃ g, og' = some g ∧ w.heap.size ≤ g
theorem Kept2.trans {B : Nat} {og og' : Option Nat} {a b c : World} (h : Kept2 B og a b) (k : Kept2 B og' b c) (hn : NewOwn a og og') : Kept2 B og a c := by
  refine ⟨k.os.trans h.os, k.tape.trans h.tape, k.output.trans h.output, Nat.le_trans h.size k.size, fun j hj hB hg => ?_⟩
  rw [k.block j (Nat.lt_of_lt_of_le hj h.size) hB ?_]
  · exact h.block j hj hB hg
  · rcases hn with rfl | ⟨g, rfl, hl⟩
    · exact hg
    · intro e
      have : j = g := by simpa using e
      omega
theorem NewOwn.trans {w w' : World} {a b c : Option Nat} (h : NewOwn w a b) (k : NewOwn w' b c) (hs : w.heap.size ≤ w'.heap.size) : NewOwn w a c := by
  rcases k with rfl | ⟨g, rfl, hl⟩
  · exact h
  · exact .inr ⟨g, rfl, by omega⟩
theorem Kept2.of_below {B : Nat} {og : Option Nat} {w w' : World} (h : Below w.heap.size w w') : Kept2 B og w w' := ⟨h.os, h.tape, h.output, h.size, fun k hk _ _ => h.block k hk⟩
theorem Kept2.of_mid {B g : Nat} {w w' : World} (h : Mid g (g + 1) w w') : Kept2 B (some g) w w' := ⟨h.os, h.tape, h.output, h.size, fun k hk _ hg => h.block k hk (by have : k ≠ g := fun e => hg (by rw [e]); omega)⟩
theorem Kept2.cell {B : Nat} {og : Option Nat} {w w' : World} (h : Kept2 B og w w') {b o : Nat} {v : Value} (hB : b ≠ B) (hg : some b ≠ og) (hc : w.cell? ⟨b, o, none⟩ = some v) : w'.cell? ⟨b, o, none⟩ = some v := by
  rw [World.cell?_of_block (a := ⟨b, o, none⟩) (h.block b (cell_lt hc) hB hg)]; exact hc
/-- The row's block holds no steps. -/
def OwnT (w : World) (og : Option Nat) : Prop := ∀ g, og = some g → ∀ cur fz, w.heap[g]? ≠ some (.cells cur 132 fz)
theorem StRow.kept2 {B : Nat} {og : Option Nat} {w w' : World} {z ss} (h : StRow w z ss) (hk : Kept2 B og w w') (hB : ∀ cur fz, w.heap[B]? ≠ some (.cells cur 132 fz)) (ho : OwnT w og) : StRow w' z ss := by
  have hne : ∀ b o, z = some ⟨b, o, none⟩ → b ≠ B ∧ some b ≠ og := fun b o e => by
    obtain ⟨cur, fz, hc⟩ := h.2 b o e
    refine ⟨fun hb => ?_, fun hb => ?_⟩
    · subst hb; exact hB _ _ hc
    · exact ho b hb.symm _ _ hc
  constructor
  · intro k hk'
    obtain ⟨b, o, e, h1, h2⟩ := h.1 k hk'
    obtain ⟨n1, n2⟩ := hne b o e
    exact ⟨b, o, e, hk.cell n1 n2 h1, hk.cell n1 n2 h2⟩
  · intro b o e
    obtain ⟨n1, n2⟩ := hne b o e
    obtain ⟨cur, fz, hc⟩ := h.2 b o e
    refine ⟨cur, fz, ?_⟩
    have hlt : b < w.heap.size := by
      rcases Nat.lt_or_ge b w.heap.size with h | h
      · exact h
      · rw [Array.getElem?_eq_none h] at hc; cases hc
    rw [hk.block b hlt n1 n2]
    exact hc
theorem HpAt.ownT {w : World} {B base : Nat} {v : Value} {n : Nat} {l : List It} (h : HpAt w B base v n l) : OwnT w v.ownBlock := by
  intro g hg
  rcases h.own.2 with ⟨rfl, _⟩ | ⟨g', cap, cur', rfl, _, hc, _⟩
  · cases hg
  · have : g' = g := by simpa [Value.ownBlock] using hg
    subst this
    intro cur fz e
    rw [hc] at e
    simp at e
/-- Trails in memory. -/
def TrsAt (w : World) (z : Option Addr) (s : List It) : Prop := ∀ k (_ : k < s.length), ∃ b off, z = some ⟨b, off, none⟩ ∧ w.cell? ⟨b, off + k * 2, none⟩ = some (.int .i64 s[k].y.far) ∧ w.cell? ⟨b, off + k * 2 + 1, none⟩ = some (.slice s[k].z s[k].y.ss.length s[k].c)

theorem itCells_add (l : List It) (i : It) : itCells (l ++ [i]) = itCells l ++ [.int .i64 i.y.far, .slice i.z i.y.ss.length i.c] := by simp [itCells]
theorem HpAt.grown {w2 w3 w7 : World} {B base n : Nat} {v : Value} {l : List It} (h : HpAt w2 B base v n l) (hb : Below w2.heap.size w2 w3) (hg : w3.grownBy w7 v.ownBlock) : w7.cell? ⟨B, 0, none⟩ = some (.func (.func 96) #[] #[]) ∧ w7.cell? ⟨B, 1, none⟩ = some v ∧ w7.frozen? ⟨B, 1, none⟩ = false ∧ Kept2 B v.ownBlock w2 w7 ∧ w7.heap[B]? = w2.heap[B]? := by
  have hlo := h.lo
  have hBo : some B ≠ v.ownBlock := fun e => by
    have := (h.own.lt B e.symm).1
    omega
  have hBl := cell_lt h.c0
  have hBs : B < w3.heap.size := Nat.lt_of_lt_of_le hBl hb.size
  have eB : w7.heap[B]? = w2.heap[B]? := (hg.block B hBs hBo).trans (hb.block B hBl)
  refine ⟨?_, ?_, ?_, ?_, eB⟩
  · rw [World.cell?_of_block (a := ⟨B, 0, none⟩) eB]; exact h.c0
  · rw [World.cell?_of_block (a := ⟨B, 1, none⟩) eB]; exact h.c1
  · rw [World.frozen?_of_block (a := ⟨B, 1, none⟩) eB]; exact h.f1
  · exact ⟨hg.os.trans hb.os, hg.tape.trans hb.tape, hg.output.trans hb.output, Nat.le_trans hb.size hg.size, fun k hk _ ho => (hg.block k (Nat.lt_of_lt_of_le hk hb.size) ho).trans (hb.block k hk)⟩
theorem set_obj {w : World} {B o : Nat} {u : Value} {T : TypeId} (h : ∀ cur fz, w.heap[B]? ≠ some (.cells cur T fz)) : ∀ cur fz, (w.setCell ⟨B, o, none⟩ u).heap[B]? ≠ some (.cells cur T fz) := by
  intro cur fz e
  have e1 : (w.setCell ⟨B, o, none⟩ u).heap[B]? = (w.heap[B]?).map (fun x => match x with | .cells c el fr => .cells (c.setIfInBounds o u) el fr | ob => ob) := by
    show (w.heap.modify B _)[B]? = _
    rw [Array.getElem?_modify, if_pos rfl]
    cases w.heap[B]? with
    | none => rfl
    | some ob => cases ob <;> rfl
  rw [e1] at e
  cases hB : w.heap[B]? with
  | none => rw [hB] at e; cases e
  | some ob =>
    rw [hB] at e
    cases ob with
    | cells cur' T' fz' =>
      simp only [Option.map_some, Option.some.injEq, Obj.cells.injEq] at e
      exact h cur' fz' (by rw [hB, e.2.1])
    | _ => simp at e
theorem HpAt.pushed {w2 w3 w7 : World} {B base n g2 cp : Nat} {v : Value} {l : List It} {it : It} (h : HpAt w2 B base v n l) (hb : Below w2.heap.size w2 w3) (hg : w3.grownBy w7 v.ownBlock)
    (hown : w7.ownsRow base 101 2 (.slice (some ⟨g2, 0, none⟩) (n + 1) cp) (n + 1) (itCells l ++ [.int .i64 it.y.far, .slice it.z it.y.ss.length it.c])) (hst : StRow w2 it.z it.y.ss ∧ it.y.ss.length ≤ 1000) (hnew : v.ownBlock = some g2 ∨ g2 = w3.heap.size) (hn : n + 1 ≤ 1000) :
    HpAt (w7.setCell ⟨B, 1, none⟩ (.slice (some ⟨g2, 0, none⟩) (n + 1) cp)) B base (.slice (some ⟨g2, 0, none⟩) (n + 1) cp) (n + 1) (l ++ [it]) ∧ Kept2 B v.ownBlock w2 (w7.setCell ⟨B, 1, none⟩ (.slice (some ⟨g2, 0, none⟩) (n + 1) cp)) ∧ NewOwn w2 v.ownBlock (some g2) := by
  obtain ⟨c0, c1, f1, hk, eB⟩ := h.grown hb hg
  have hlo := h.lo
  have hk2 : Kept2 B v.ownBlock w2 (w7.setCell ⟨B, 1, none⟩ (.slice (some ⟨g2, 0, none⟩) (n + 1) cp)) :=
    ⟨hk.os, hk.tape, hk.output, by simp; exact hk.size, fun k hkl hB ho => by rw [Below.heap_setCell _ _ _ k hB]; exact hk.block k hkl hB ho⟩
  refine ⟨⟨by simp [h.len], by simp [go_sem, c0], by simp [go_sem, c1], by rw [World.frozen?_setCell]; exact f1, ?_, hlo, ?_, hn, ?_⟩, hk2, ?_⟩
  · rw [itCells_add]
    exact ownsRow_setCell_below hown (by show B < base; exact hlo) _
  · intro x hx
    rcases List.mem_append.1 hx with hx | hx
    · exact ⟨(h.st x hx).1.kept2 hk2 h.tB h.ownT, (h.st x hx).2⟩
    · have : x = it := by simpa using hx
      subst this
      exact ⟨hst.1.kept2 hk2 h.tB h.ownT, hst.2⟩
  · refine set_obj fun cur fz e => h.tB cur fz ?_
    rw [← eB]; exact e
  · rcases hnew with e | e
    · exact .inl e.symm
    · exact .inr ⟨g2, rfl, by rw [e]; exact hb.size⟩
theorem itF_add {l : List It} {it : It} {n : Nat} (hl : l.length = n) : ∀ k, k < n → itF (l ++ [it]) k = itF l k := by
  intro k hk
  simp [itF, List.getD_eq_getElem?_getD, List.getElem?_append, hl, hk]
theorem push_any (B base n cz : Nat) (v : Value) (l s : List It) (z : Option Addr) (w : World) (h : HpAt w B base v n l) (hok : HeapOk leI (itF l) n) (hs : TrsAt w z s) (hss : ∀ i ∈ s, StRow w i.z i.y.ss ∧ i.y.ss.length ≤ 1000) (hz : ∀ b off, z = some ⟨b, off, none⟩ → b ≠ B ∧ some b ≠ v.ownBlock) (hn : n + s.length ≤ 1000) (hbase : base ≤ w.heap.size) :
    Calls Tryz.prog 99 #[.pointer (some ⟨B, 0, none⟩), .slice z s.length cz] w fun e w' =>
    e = .returned (.tuple #[]) ∧ ∃ v' l', HpAt w' B base v' (n + s.length) l' ∧ (∀ x, x ∈ l' ↔ x ∈ l ∨ x ∈ s) ∧ HeapOk leI (itF l') (n + s.length) ∧ Kept2 B v.ownBlock w w' ∧ NewOwn w v.ownBlock v'.ownBlock := by
  obtain ⟨i0, hi, hz0, hz1, hz2⟩ := info_parts infoTrail
  have HI := hide hi
  have HZ0 := hide hz0
  have HZ1 := hide hz1
  have HZ2 := hide hz2
  have HH := hide h
  have HOK := hide hok
  have HS := hide hs
  have HSS := hide hss
  have HZN := hide hz
  clear h hok hs hss hz hi hz0 hz1 hz2
  go_enter Tryz.func99, Tryz.ntmps99
  go_wp2_with fail
  go_loopw [5, 8] (fun _ i wr => ∃ (k : Nat) (v' : Value) (l' : List It), k ≤ s.length ∧ i = .int .i64 k ∧ Hid (HpAt wr B base v' (n + k) l') ∧ Hid (∀ x, x ∈ l' ↔ x ∈ l ∨ x ∈ s.take k) ∧ Hid (HeapOk leI (itF l') (n + k)) ∧ Hid (Kept2 B v.ownBlock w wr) ∧ Hid (NewOwn w v.ownBlock v'.ownBlock)) (fun _ i _ => s.length - (intOf i).toNat)
  case atStart => exact ⟨0, v, l, Nat.zero_le _, rfl, HH.out, (fun x => by simp), HOK.out, Kept2.refl _ _ _, .inl rfl⟩
  case round =>
    obtain ⟨k, v', l', hk, rfl, HHR, HMEM, HHO, HKP, HNO⟩ := hrel
    by_cases hlt : k < s.length
    · have hki : (k : Int) < (s.length : Int) := by omega
      obtain ⟨b, off, rfl, d0, d1⟩ := HS.out k hlt
      obtain ⟨hbB, hbo⟩ := HZN.out b off rfl
      have d0 := HKP.out.cell hbB hbo d0
      have d1 := HKP.out.cell hbB hbo d1
      have HSK := hide (show StRow wr s[k].z s[k].y.ss ∧ s[k].y.ss.length ≤ 1000 from ⟨(HSS.out _ (List.getElem_mem hlt)).1.kept2 HKP.out HH.out.tB HH.out.ownT, (HSS.out _ (List.getElem_mem hlt)).2⟩)
      have HTK := hide (List.take_succ_eq_append_getElem hlt)
      generalize s[k] = it at *
      obtain ⟨⟨tf, ts⟩, tz, tc⟩ := it
      dsimp only at *
      have hbl := cell_lt d0
      have hlo := HHR.out.lo
      have hA := (Below.refl wr.heap.size wr).alloc (Nat.le_refl _) (.cells #[.int .i64 tf, .slice tz ts.length tc] 101)
      have x0 := new_cell wr #[.int .i64 tf, .slice tz ts.length tc] 101 0 _ rfl
      have x1 := new_cell wr #[.int .i64 tf, .slice tz ts.length tc] 101 1 _ rfl
      have HH2 := hide (HHR.out.later hA)
      have HSK2 := hide (show StRow _ tz ts ∧ ts.length ≤ 1000 from ⟨HSK.out.1.later hA, HSK.out.2⟩)
      have HK2 := hide (HKP.out.trans (Kept2.of_below (B := B) (og := v'.ownBlock) hA) HNO.out)
      have hws : w.heap.size ≤ (wr.alloc (.cells #[.int .i64 tf, .slice tz ts.length tc] 101)).heap.size := HK2.out.size
      have hbz : base ≤ (wr.alloc (.cells #[.int .i64 tf, .slice tz ts.length tc] 101)).heap.size := by omega
      go_upto_region 3 with fail
      generalize wr.alloc (.cells #[.int .i64 tf, .slice tz ts.length tc] 101) = w2 at *
      generalize wr.heap.size = bI at *
      have c1 := HH2.out.c1
      have hcB := cell_lt c1
      have hml : n + k + 1 ≤ maxLen := by unfold maxLen; omega
      clear hA d0 d1 HHR HSK HKP
      go_cut [8] from 8 to 30 (fun s8 wx => s8 = .int .i64 k ∧ ∃ (g2 cp2 : Nat), Hid (HpAt wx B base (.slice (some ⟨g2, 0, none⟩) (n + k + 1) cp2) (n + k + 1) (l' ++ [⟨⟨tf, ts⟩, tz, tc⟩])) ∧ Hid (Kept2 B v'.ownBlock w2 wx) ∧ Hid (NewOwn w2 v'.ownBlock (some g2)))
      case first =>
        go_region_law (first
          | (refine step_append_lies _ (by rfl) _ _ _ (by rfl) base 101 i0 _ 2 32 Tryz.underlying169 HI.out HZ0.out HZ1.out HZ2.out rfl (by omega) v' (n + k) (itCells l') (by rfl) (HH2.out.own.alloc _) ⟨_, 0, none⟩ 1 1 [.int .i64 tf, .slice tz ts.length tc] (by rfl) (by rfl) (World.news_of_block (heap_alloc_new _ _)) (by simp [Value.oneCell']) (by omega) hml (by omega) (by simp; omega) _ rfl ?_; intro g2 cp2 w7 hown2 hgrow2 hnew2 _; have HPU := hide (HH2.out.pushed (it := ⟨⟨tf, ts⟩, tz, tc⟩) (((Below.refl w2.heap.size w2).alloc (Nat.le_refl _) _).drew) hgrow2 hown2 HSK2.out hnew2 (by omega)); obtain ⟨_, m1, mf, _, _⟩ := HH2.out.grown (((Below.refl w2.heap.size w2).alloc (Nat.le_refl _) _).drew) hgrow2))
        all_goals
          go_wp2_with fail
          go_meet
          case rel => exact ⟨rfl, g2, cp2, HPU.out.1, HPU.out.2.1, HPU.out.2.2⟩
      case rest =>
        obtain ⟨rfl, g2, cp2, HH3, HK3, HN3⟩ := hcut
        rename World => w3
        have hll : (l').length = n + k := HH2.out.len
        have HUP := hide (show HeapUp leI (itF (l' ++ [⟨⟨tf, ts⟩, tz, tc⟩])) (n + k + 1) (n + k) from heapUp_push (fun j h0 h1 => by
          rw [itF_add hll j h1, itF_add hll _ (by omega)]
          exact HHO.out j h0 h1))
        have c1 := HH3.out.c1
        have hcB3 := cell_lt c1
        have hidx : (((n + k + 1 : Nat) : Int) - 1) = ((n + k : Nat) : Int) := by omega
        clear x0 x1
        have hri := rise_any B base g2 cp2 (n + k + 1) (n + k) _ w3 HH3.out (by omega) HUP.out
        rw [show ((n + k : Nat) : Int) = (n : Int) + (k : Int) from by omega] at hri
        have HRI := hide hri
        clear hri
        go_upto_region 4 with fail
        go_wp2_with fail
        refine HRI.out.mono ?_
        rintro e w4 ⟨rfl, l4, hh4, hm4, ho4, hmid4⟩
        have HH4 := hide hh4
        have HO4 := hide ho4
        have HM4 := hide (show ∀ x, x ∈ l4 ↔ x ∈ l ∨ x ∈ s.take (k + 1) from fun x => by
          rw [hm4 x, List.mem_append, HMEM.out x, HTK.out, List.mem_append, or_assoc])
        have HN4 := hide (HNO.out.trans HN3.out hws)
        have HK4 := hide ((HK2.out.trans HK3.out HNO.out).trans (Kept2.of_mid (B := B) hmid4) HN4.out)
        clear hh4 ho4 hm4 hmid4
        go_wp2_with fail
        go_roundw
        case rel => exact ⟨k + 1, .slice (some ⟨g2, 0, none⟩) (n + k + 1) cp2, l4, by omega, by go_num, HH4, HM4, HO4, HK4, HN4⟩
        case measure => simp [intOf]; omega
    · have e : k = s.length := by omega
      subst e
      go_wp2_with fail
      go_end0
      exact ⟨rfl, v', l', HHR.out, (fun x => by rw [HMEM.out x, List.take_of_length_le (Nat.le_refl _)]), HHO.out, HKP.out, HNO.out⟩
end Go.Proofs.YtijdigdcmjdooaaGreat

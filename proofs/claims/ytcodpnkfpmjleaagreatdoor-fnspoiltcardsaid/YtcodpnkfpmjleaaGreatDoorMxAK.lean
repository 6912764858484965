/- The laws' own helpers on lists of numbers. Own work. -/
import Derived.Test.YtcodpnkfpmjleaaGreatDoorMxAG
import Derived.Test.YtcodpnkfpmjleaaGreatDoorTo
import Derived.Test.YtcodpnkfpmjleaaGreatDoorDwN
import Derived.Test.YtcodpnkfpmjleaaGreatDoorMxAD
import Derived.Test.YtcodpnkfpmjleaaGreatDoorMxAJ
import Derived.Test.YtcodpnkfpmjleaaGreatDoorMxAF
import Derived.Deep.RegionHeld3
namespace Go.Proofs.YtcodpnkfpmjleaaGreatDoor
open Go.RowKit
set_option maxHeartbeats 2000000

theorem info_Int : (Tryz.prog.info? 3).map (fun i => (i.zero, i.size, i.bytes)) = some (some (.int .i64 0), 1, 8) := by kernel_rfl

end Go.Proofs.YtcodpnkfpmjleaaGreatDoor

/- Nets, ASpot, Lies: what the laws draw; how great it is at most. Own work. -/
namespace Go.Proofs.YtcodpnkfpmjleaaGreatDoor
open Go.RowKit
set_option maxHeartbeats 2000000

/-! ### How great a drawn track is -/
theorem pcsTo_all (code : List Int) (small : Int) (c0 : Cu) (i : Nat) : ∀ p ∈ (pcsTo code small c0 i).1, ∃ (k : Nat) (c : Cu), k < i ∧ p = pcDraw code small k c := by
  induction i with
  | zero => intro p hp; simp [pcsTo] at hp
  | succ i ih =>
    intro p hp
    simp only [pcsTo, List.mem_append, List.mem_singleton] at hp
    rcases hp with hp | hp
    · obtain ⟨k, c, h1, h2⟩ := ih p hp
      exact ⟨k, c, by omega, h2⟩
    · exact ⟨i, _, by omega, hp⟩
theorem jrun_all (code : List Int) (P : Jt → Prop) (hP : ∀ n es c, 0 < es.length → es.length ≤ 18 → n ≤ 18 → P (jtDraw code n es c)) : ∀ (f : Nat) (js : List Jt) (es : List (Int × Int)) (c : Cu), es.length ≤ 18 → js.length + es.length ≤ 18 → (∀ j ∈ js, P j) → (∀ j ∈ jrun code f js es c, P j) ∧ (jrun code f js es c).length ≤ 18
  | 0, js, es, c, _, h2, h => ⟨h, by simp [jrun]; omega⟩
  | f + 1, js, es, c, h1, h2, h => by
    rw [jrun]
    split
    · exact ⟨h, by omega⟩
    · rename_i h0
      have hk := jtKind_bd code es c (by omega)
      refine jrun_all code P hP f _ _ _ (by simp; omega) (by simp; omega) ?_
      intro j hj
      rcases List.mem_append.1 hj with hj | hj
      · exact h j hj
      · have : j = jtDraw code js.length es c := by simpa using hj
        rw [this]
        exact hP _ _ _ (by omega) h1 (by omega)
structure NetBd (N : Nt) : Prop where
  some : 1 ≤ N.pcs.length
  few : N.pcs.length ≤ 9
  names : ∀ p ∈ N.pcs, p.name.size ≤ 9
  lens : ∀ p ∈ N.pcs, 1 ≤ p.len ∧ p.len ≤ 300
  joints : N.jts.length ≤ 18
  jends : ∀ j ∈ N.jts, j.name.size ≤ 9 ∧ j.ends.length ≤ 18
theorem netP_bd (code : List Int) (c : Cu) : NetBd (netP code c) := by
  have hk := pickV_bd (code := code) (n := 9) (by omega) (pickC code 4 c)
  generalize hK : (1 + pickV code 9 (pickC code 4 c)).toNat = K
  have hK9 : 1 ≤ K ∧ K ≤ 9 := by omega
  have hpcs : (netP code c).pcs = (pcsTo code (pickV code 4 c) (pickC code 9 (pickC code 4 c)) K).1 := by unfold netP; simp only [hK]
  have hjts : (netP code c).jts = jrun code (2 * K) [] (shuf code (2 * K - 1) (endsTo K) (pcsTo code (pickV code 4 c) (pickC code 9 (pickC code 4 c)) K).2).1 (shuf code (2 * K - 1) (endsTo K) (pcsTo code (pickV code 4 c) (pickC code 9 (pickC code 4 c)) K).2).2 := by unfold netP; simp only [hK]
  have hall := pcsTo_all code (pickV code 4 c) (pickC code 9 (pickC code 4 c)) K
  have hes : (shuf code (2 * K - 1) (endsTo K) (pcsTo code (pickV code 4 c) (pickC code 9 (pickC code 4 c)) K).2).1.length = 2 * K := by rw [shuf_len, endsTo_len]
  have hj := jrun_all code (fun j => j.name.size ≤ 9 ∧ j.ends.length ≤ 18) (fun n es c h0 h1 h2 => by
    unfold jtDraw
    refine ⟨?_, ?_⟩
    · dsimp only
      split
      · exact nameP_size (by omega)
      · decide
    · simp; omega) (2 * K) [] _ (shuf code (2 * K - 1) (endsTo K) (pcsTo code (pickV code 4 c) (pickC code 9 (pickC code 4 c)) K).2).2 (by rw [hes]; omega) (by rw [hes]; simp; omega) (fun j hj => by simp at hj)
  refine ⟨?_, ?_, ?_, ?_, ?_, ?_⟩
  · rw [hpcs, pcsTo_len]; omega
  · rw [hpcs, pcsTo_len]; omega
  · intro p hp
    rw [hpcs] at hp
    obtain ⟨k, c', h1, rfl⟩ := hall p hp
    exact nameP_size (by omega)
  · intro p hp
    rw [hpcs] at hp
    obtain ⟨k, c', h1, rfl⟩ := hall p hp
    exact pcLen_bd _ _ _
  · rw [hjts]; exact hj.2
  · intro j hj'
    rw [hjts] at hj'
    exact hj.1 j hj'
theorem NetBd.len_at {N : Nt} (h : NetBd N) {k : Nat} (hk : k < N.pcs.length) : 1 ≤ lenAt N k ∧ lenAt N k ≤ 300 := by
  rw [lenAt_nat N k hk]
  exact h.lens _ (List.getElem_mem hk)

/-! ### Nets -/
def netOfCode (code : List Int) : Nt := netP code ⟨0, 0⟩
def NetsPost (code : List Int) (w : World) (e : Ending) (w' : World) : Prop :=
  ∃ (pa ja : Option Addr) (pcap jcap : Nat), e = .returned (.agg #[.slice pa (netOfCode code).pcs.length pcap, .slice ja (netOfCode code).jts.length jcap]) ∧ PcsAt w' pa (netOfCode code).pcs ∧ JtsAt w' ja (netOfCode code).jts ∧ Below w.heap.size w w'

theorem cur_new {w : World} {a : Option Addr} {n cap : Nat} : CurAt (w.alloc (.cells #[.slice a n cap, .int .i64 0, .int .u64 0] 57)) w.heap.size a n cap ⟨0, 0⟩ :=
  ⟨new_cell w _ _ 0 _ rfl, new_cell w _ _ 1 _ rfl, new_cell w _ _ 2 _ rfl, by simp [go_sem], by simp [go_sem]⟩
theorem off_of {w : World} {a : Option Addr} {code : List Int} {B : Nat} (h : BytesAt w a code) (hB : w.heap.size ≤ B) : OffB a code.length B := by
  intro b off ha
  by_cases h0 : code.length = 0
  · exact .inl h0
  · obtain ⟨b', off', ha', hc⟩ := h 0 (by omega)
    rw [ha] at ha'
    obtain ⟨rfl, rfl⟩ : b = b' ∧ off = off' := by simpa using ha'
    exact .inr (Nat.lt_of_lt_of_le (cell_lt hc) hB)

theorem nets_any (a : Option Addr) (cap : Nat) (code : List Int) (w : World) (hB : Bys code) (hn : code.length ≤ 1048576) (hx : BytesAt w a code) :
    Calls Tryz.prog 5 #[.slice a code.length cap] w fun e w' => NetsPost code w e w' := by
  have HB := hide hB
  have HX := hide hx
  have hbA : Below w.heap.size w ((w.alloc (.cells #[.slice none 0 0, .slice none 0 0] 26)).alloc (.cells #[.slice a code.length cap, .int .i64 0, .int .u64 0] 57)) := ((Below.refl _ _).alloc (Nat.le_refl _) _).alloc (by simp) _
  have HCA : Hid (CurAt ((w.alloc (.cells #[.slice none 0 0, .slice none 0 0] 26)).alloc (.cells #[.slice a code.length cap, .int .i64 0, .int .u64 0] 57)) (w.heap.size + 1) a code.length cap ⟨0, 0⟩) := by
    have := cur_new (w := w.alloc (.cells #[.slice none 0 0, .slice none 0 0] 26)) (a := a) (n := code.length) (cap := cap)
    rw [World.size_alloc] at this
    exact this
  have HO := hide (off_of hx (B := w.heap.size + 1) (by omega))
  have r0 : ((w.alloc (.cells #[.slice none 0 0, .slice none 0 0] 26)).alloc (.cells #[.slice a code.length cap, .int .i64 0, .int .u64 0] 57)).cell? ⟨w.heap.size, 0, none⟩ = some (.slice none 0 0) := by simp [go_sem]
  have r1 : ((w.alloc (.cells #[.slice none 0 0, .slice none 0 0] 26)).alloc (.cells #[.slice a code.length cap, .int .i64 0, .int .u64 0] 57)).cell? ⟨w.heap.size, 1, none⟩ = some (.slice none 0 0) := by simp [go_sem]
  have rf0 : ((w.alloc (.cells #[.slice none 0 0, .slice none 0 0] 26)).alloc (.cells #[.slice a code.length cap, .int .i64 0, .int .u64 0] 57)).frozen? ⟨w.heap.size, 0, none⟩ = false := by simp [go_sem]
  have rf1 : ((w.alloc (.cells #[.slice none 0 0, .slice none 0 0] 26)).alloc (.cells #[.slice a code.length cap, .int .i64 0, .int .u64 0] 57)).frozen? ⟨w.heap.size, 1, none⟩ = false := by simp [go_sem]
  have hzA : ((w.alloc (.cells #[.slice none 0 0, .slice none 0 0] 26)).alloc (.cells #[.slice a code.length cap, .int .i64 0, .int .u64 0] 57)).heap.size = w.heap.size + 2 := by simp
  clear hB hx
  go_enter Tryz.func5, Tryz.ntmps5
  go_wp2_with fail
  generalize ((w.alloc (.cells #[.slice none 0 0, .slice none 0 0] 26)).alloc (.cells #[.slice a code.length cap, .int .i64 0, .int .u64 0] 57)) = w1 at *
  refine (net_any (w.heap.size + 1) a cap code ⟨0, 0⟩ _ HB.out (Nat.zero_le _) hn HO.out HCA.out (HX.out.later hbA)).mono ?_
  rintro e w2 ⟨pa, ja, pcap, jcap, rfl, hIN, hm⟩
  have rf0 := hm.frozen (.inl (by omega)) r0 rf0
  have rf1 := hm.frozen (.inl (by omega)) r1 rf1
  have r0 := hm.cell (.inl (by omega)) r0
  have r1 := hm.cell (.inl (by omega)) r1
  have HIN := hide hIN
  have hb2 : Below w.heap.size w w2 := hbA.trans ((hm.below (by omega)).mono (by omega))
  have hz2 := hm.size
  clear hIN hm HCA HX HO
  go_wp2_with fail
  refine bodyPost_ret (v := .agg #[.slice pa (netP code ⟨0, 0⟩).pcs.length pcap, .slice ja (netP code ⟨0, 0⟩).jts.length jcap]) (by simp [results, Tryz.results5, go_sem, r0, r1]) rfl ?_
  have hle : w.heap.size ≤ w.heap.size := Nat.le_refl _
  obtain ⟨h1, h2⟩ := HIN.out ((w2.setCell ⟨w.heap.size, 0, none⟩ (.slice pa (netP code ⟨0, 0⟩).pcs.length pcap)).setCell ⟨w.heap.size, 1, none⟩ (.slice ja (netP code ⟨0, 0⟩).jts.length jcap)) (fun k hk _ => (Below.heap_setCell _ _ _ _ (by show k ≠ w.heap.size; omega)).trans (Below.heap_setCell _ _ _ _ (by show k ≠ w.heap.size; omega)))
  exact ⟨pa, ja, pcap, jcap, rfl, h1, h2, (hb2.setCell hle _).setCell hle _⟩
end Go.Proofs.YtcodpnkfpmjleaaGreatDoor

/- spec's writer with other blanks and remarks. Own work. -/
namespace Go.Proofs.YtcodpnkfpmjleaaGreatDoor
open Go.RowKit
set_option maxHeartbeats 4000000
set_option maxRecDepth 100000

def remB (p : Nat) : ByteArray := if p = 0 then ⟨#[10]⟩ else if p = 1 then ⟨#[35, 32, 112, 105, 101, 99, 101, 10]⟩ else if p = 2 then ⟨#[32, 32, 10]⟩ else ⟨#[9, 35, 10]⟩
def blkB (p : Nat) : ByteArray := if p = 0 then ⟨#[]⟩ else if p = 1 then ⟨#[32]⟩ else ⟨#[9]⟩
theorem remB_get {p : Nat} (h : p < 4) : (#[.string ⟨#[10]⟩, .string ⟨#[35, 32, 112, 105, 101, 99, 101, 10]⟩, .string ⟨#[32, 32, 10]⟩, .string ⟨#[9, 35, 10]⟩] : Array Value)[p]? = some (.string (remB p)) := by
  have : p = 0 ∨ p = 1 ∨ p = 2 ∨ p = 3 := by omega
  rcases this with rfl | rfl | rfl | rfl <;> rfl
theorem blkB_get {p : Nat} (h : p < 3) : (#[.string ⟨#[]⟩, .string ⟨#[32]⟩, .string ⟨#[9]⟩] : Array Value)[p]? = some (.string (blkB p)) := by
  have : p = 0 ∨ p = 1 ∨ p = 2 := by omega
  rcases this with rfl | rfl | rfl <;> rfl
theorem remB_bs (p : Nat) : ∃ r, bs (remB p) = r ++ [10] ∧ (r = [] ∨ r = [35, 32, 112, 105, 101, 99, 101] ∨ r = [32, 32] ∨ r = [9, 35]) := by
  unfold remB
  repeat' split
  · exact ⟨_, rfl, .inl rfl⟩
  · exact ⟨[35, 32, 112, 105, 101, 99, 101], rfl, .inr (.inl rfl)⟩
  · exact ⟨[32, 32], rfl, .inr (.inr (.inl rfl))⟩
  · exact ⟨[9, 35], rfl, .inr (.inr (.inr rfl))⟩
theorem remB_size (p : Nat) : 1 ≤ (remB p).size ∧ (remB p).size ≤ 8 := by
  unfold remB
  repeat' split
  all_goals decide
theorem blkB_bs (p : Nat) : bs (blkB p) = [] ∨ bs (blkB p) = [32] ∨ bs (blkB p) = [9] := by
  unfold blkB
  repeat' split
  · exact .inl rfl
  · exact .inr (.inl rfl)
  · exact .inr (.inr rfl)
theorem blkB_size (p : Nat) : (blkB p).size ≤ 1 := by
  unfold blkB
  repeat' split
  all_goals decide
theorem looseB_take (Ls : List Bl) (k : Nat) : looseB (Ls.take k) ≤ looseB Ls := by
  unfold looseB
  rw [List.map_take]
  exact sumL_take _ _
theorem LI.size {Ls : List Bl} {k : Nat} {o : Bl} (h : LI Ls k o) : o.length ≤ looseB Ls := by
  obtain ⟨_, _, _, _, h4⟩ := h
  have := looseB_take Ls k
  omega
theorem LJ.size {Ls : List Bl} {k : Nat} {i : Nat} {o : Bl} (hk : k < Ls.length) (hn : ∀ c ∈ Ls[k], c ≠ 10) (h : LJ Ls k (wordsL Ls[k]) i o) : o.length ≤ looseB Ls := by
  obtain ⟨_, _, _, _, _, _, _, h6⟩ := h
  have h1 := looseB_take Ls (k + 1)
  rw [looseB_succ hk] at h1
  have h2 := words_bd hn
  have h3 := sumL_take ((wordsL Ls[k]).map fun w => w.length + 2) i
  rw [← List.map_take] at h3
  omega

theorem loose_any (b : Nat) (a : Option Addr) (cap : Nat) (code : List Int) (c : Cu) (s : ByteArray) (w : World) (hB : Bys code) (hat : c.at' ≤ 4611686018400000000) (hn : code.length ≤ 1048576) (ho : OffB a code.length b) (hs : s.size ≤ 65536) (hc : CurAt w b a code.length cap c) (hx : BytesAt w a code) :
    Calls Tryz.prog 29 #[.pointer (some ⟨b, 0, none⟩), .string s] w fun e w' =>
    ∃ (o : ByteArray) (c' : Cu), e = .returned (.string o) ∧ LI (linesL (bs s)) (linesL (bs s)).length (bs o) ∧ c'.at' ≤ c.at' + 6 * o.size ∧ CurAt w' b a code.length cap c' ∧ Mid b (b + 1) w w' := by
  have HB := hide hB
  have HX := hide hx
  have HC := hide hc
  have HO := hide ho
  have hbw := cell_lt hc.c0
  have hlb := linesG_bd (bs s) []
  rw [bs_len] at hlb
  have HLB := hide (show (linesL (bs s)).length ≤ s.size + 1 ∧ ∀ l ∈ linesL (bs s), l.length ≤ s.size from ⟨hlb.1, fun l hl => by have := hlb.2.2 l hl; simpa using this⟩)
  have HNO := hide (lines_no (bs s))
  have hbd := loose_bd (bs s)
  rw [bs_len] at hbd
  obtain ⟨Ls, hLs⟩ : ∃ Ls, linesL (bs s) = Ls := ⟨_, rfl⟩
  rw [hLs] at HLB HNO hbd ⊢
  have HLS := hide hLs
  clear hB hx hc ho hlb hLs
  go_enter Tryz.func29, Tryz.ntmps29
  go_wp2_with fail
  refine (l2lines_any s _ (by omega)).mono ?_
  rintro e w1 ⟨v, rfl, how, hb1⟩
  rw [HLS.out] at how
  have hll : Ls.length ≤ 65537 := by have := HLB.out.1; omega
  have HOW := hide how
  have HC1 := hide (HC.out.later hb1)
  have HM1 := hide (Mid.of_below (B := b) (C := b + 1) hb1)
  obtain ⟨zl, cl, rfl⟩ : ∃ z c, v = .slice z Ls.length c := by
    rcases HOW.out.2 with ⟨h, h0⟩ | ⟨g, cap, cur, h, _⟩
    · exact ⟨none, 0, by rw [h, h0]⟩
    · exact ⟨_, cap, h⟩
  clear how hb1 HC
  go_wp2_with fail
  go_loopw [5, 7, 8, 10, 14] (fun q5 _ _ _ q14 wr => ∃ (i : Nat) (o : ByteArray) (cu : Cu), i ≤ Ls.length ∧ q14 = .int .i64 i ∧ q5 = .string o ∧ cu.at' ≤ c.at' + 6 * o.size ∧ Hid (LI Ls i (bs o)) ∧ Hid (CurAt wr b a code.length cap cu) ∧ Hid (wr.ownsRow w.heap.size 9 1 (.slice zl Ls.length cl) Ls.length (strCells Ls)) ∧ Hid (Mid b (b + 1) w wr)) (fun _ _ _ _ q14 _ => Ls.length - (intOf q14).toNat)
  case atStart => exact ⟨0, ⟨#[]⟩, c, Nat.zero_le _, rfl, rfl, Nat.le_add_right _ _, LI.start Ls, HC1, HOW, HM1⟩
  case round =>
    obtain ⟨i, o, cu, hi, rfl, rfl, hca, HL, HC, HR, HM⟩ := hrel
    rename World => wr
    clear HC1 HOW HM1
    have hos : o.size ≤ 851981 := by have := HL.out.size; rw [bs_len] at this; omega
    by_cases hlt : i < Ls.length
    · have hii : (i : Int) < (Ls.length : Int) := by omega
      obtain ⟨zz, cc, ezz, hS, _⟩ := strs_cap HR.out
      obtain ⟨rfl, rfl⟩ : zl = zz ∧ cl = cc := by simpa using ezz
      obtain ⟨rb, ro, rfl, c0⟩ := hS i hlt
      have hlc := cell_lt c0
      have HNI := hide (HNO.out Ls[i] (List.getElem_mem hlt))
      have HLL := hide (HLB.out.2 Ls[i] (List.getElem_mem hlt))
      have HJS := hide (fun (j : Nat) (x : ByteArray) (h : LJ Ls i (wordsL Ls[i]) j (bs x)) => show x.size ≤ 851981 by have := h.size hlt HNI.out; rw [bs_len] at this; omega)
      have HCL := hide (fun (x : Bl) (h : LJ Ls i (wordsL Ls[i]) (wordsL Ls[i]).length x) (r : Bl) (hr : r = [] ∨ r = [35, 101, 110, 100]) => LJ.close hlt HNI.out h hr)
      have HWO := hide (words_okL HNI.out)
      have HWB := hide (wordsG_bd Ls[i] [])
      have HBG := hide (HL.out.begin (wordsL Ls[i]))
      have HRM := hide (fun (p : Nat) => show LJ Ls i (wordsL Ls[i]) 0 (bs (o ++ remB p)) by
        obtain ⟨r, h1, h2⟩ := remB_bs p
        rw [bs_app, h1]
        exact HL.out.remark _ h2)
      obtain ⟨l, hl⟩ : ∃ l, Ls[i] = l := ⟨_, rfl⟩
      rw [hl] at c0 HLL HJS HCL HWO HWB HBG HRM
      have hsl : (sb l).size ≤ 1048576 := by rw [sb_size]; have := HLL.out; omega
      clear hl ezz hS HNI HL
      go_wp2_with fail
      refine (pick_any b a cap code cu 3 _ HB.out (by omega) hn HO.out (by omega) (by omega) HC.out (HX.out.mid HM.out HO.out)).mono ?_
      rintro e w5 ⟨rfl, hc5, hm5⟩
      have hp3 := pickV_bd (code := code) (n := 3) (by omega) cu
      have hpa := pickC_at code 3 cu
      have HC5 := hide hc5
      have HM5 := hide (HM.out.trans hm5)
      have HR5 := hide (owns_mid HR.out hm5 (by omega))
      clear hc5 hm5 HC HM HR c0 hlc
      generalize pickV code 3 cu = q at *
      generalize pickC code 3 cu = cv at *
      go_wp2_with fail
      go_loopw [5, 8] (fun q5 q8 wx => ∃ (nn : Int) (x : ByteArray) (cx : Cu), q8 = .int .i64 nn ∧ q5 = .string x ∧ 0 ≤ nn ∧ nn ≤ 2 ∧ (nn = 2 → x = o) ∧ cx.at' ≤ c.at' + 6 * x.size + 2 ∧ Hid (LJ Ls i (wordsL l) 0 (bs x)) ∧ Hid (CurAt wx b a code.length cap cx) ∧ Hid (wx.ownsRow w.heap.size 9 1 (.slice (some ⟨rb, ro, none⟩) Ls.length cl) Ls.length (strCells Ls)) ∧ Hid (Mid b (b + 1) w wx)) (fun _ q8 _ => (intOf q8).toNat)
      case atStart => exact ⟨q, o, cv, rfl, rfl, by omega, by omega, fun _ => rfl, by omega, HBG, HC5, HR5, HM5⟩
      case round =>
        obtain ⟨nn, x, cx, rfl, rfl, hn0, hn2, hxo, hcx, HLJ, HCx, HRx, HMx⟩ := hrel
        rename World => wx
        clear HC5 HR5 HM5 HBG hpa hp3 hca
        have hxs := HJS.out _ _ HLJ.out
        have hzx := HMx.out.size
        by_cases h2 : nn = 2
        · subst h2
          have exo := hxo rfl
          subst exo
          clear hxo
          have hA := (Below.refl wx.heap.size wx).alloc (Nat.le_refl _) (.cells #[.string ⟨#[10]⟩, .string ⟨#[35, 32, 112, 105, 101, 99, 101, 10]⟩, .string ⟨#[32, 32, 10]⟩, .string ⟨#[9, 35, 10]⟩] 9)
          have HTB := hide (fun (p : Nat) (hp : p < 4) => new_cell wx #[.string ⟨#[10]⟩, .string ⟨#[35, 32, 112, 105, 101, 99, 101, 10]⟩, .string ⟨#[32, 32, 10]⟩, .string ⟨#[9, 35, 10]⟩] 9 p _ (remB_get hp))
          have HC6 := hide (HCx.out.later hA)
          have HR6 := hide (owns_later' HRx.out hA)
          have HM6 := hide (HMx.out.trans (Mid.of_below hA))
          clear hA HCx HRx HMx
          go_wp2_with fail
          generalize wx.alloc (.cells #[.string ⟨#[10]⟩, .string ⟨#[35, 32, 112, 105, 101, 99, 101, 10]⟩, .string ⟨#[32, 32, 10]⟩, .string ⟨#[9, 35, 10]⟩] 9) = w6 at *
          refine (pick_any b a cap code cx 4 _ HB.out (by omega) hn HO.out (by omega) (by omega) HC6.out (HX.out.mid HM6.out HO.out)).mono ?_
          rintro e w7 ⟨rfl, hc7, hm7⟩
          have hp4 := pickV_bd (code := code) (n := 4) (by omega) cx
          have hpa := pickC_at code 4 cx
          have HC7 := hide hc7
          have HM7 := hide (HM6.out.trans hm7)
          have HR7 := hide (owns_mid HR6.out hm7 (by omega))
          obtain ⟨pn, hpn⟩ := Int.eq_ofNat_of_zero_le hp4.1
          have hp4n : pn < 4 := by omega
          have htc : w7.cell? ⟨wx.heap.size, pn, none⟩ = some (.string (remB pn)) := hm7.cell (.inr (by omega)) (HTB.out pn hp4n)
          have hrs := remB_size pn
          have HLJ2 := hide (HRM.out pn)
          rw [hpn]
          clear hc7 hm7 HC6 HM6 HR6 HTB hp4 hpn
          generalize pickC code 4 cx = cy at *
          go_wp2_with fail
          exact ⟨⟨1, x ++ remB pn, cy, by go_num, rfl, by omega, by omega, fun h => absurd h (by omega), by rw [ByteArray.size_append]; omega, HLJ2, HC7, HR7, HM7⟩, by simp [intOf]⟩
        · have g2 : decide (nn > 1) = false := decide_eq_false (by omega)
          clear hxo HRM
          go_wp2_with fail
          refine (l2words_any (sb l) _ hsl).mono ?_
          rintro e w8 ⟨v, rfl, how, hb8⟩
          rw [bs_sb] at how
          obtain ⟨ws, hws⟩ : ∃ ws, wordsL l = ws := ⟨_, rfl⟩
          have hwl : ws.length ≤ 65537 := by
            have h1 := HWB.out.1
            have h2 := HLL.out
            rw [show wordsG [] l = ws from hws] at h1
            omega
          have HWZ := hide (show ∀ y ∈ ws, y.length ≤ 65536 from fun y hy => by
            have h1 := HWB.out.2 y (by rw [show wordsG [] l = ws from hws]; exact hy)
            have h2 := HLL.out
            simp only [List.length_nil] at h1
            omega)
          rw [hws] at how HLJ HJS HCL HWO
          obtain ⟨z8, c8, rfl, hS8, _⟩ := strs_cap how
          have HWR := hide (owns_low how (base' := w.heap.size) (by omega))
          have HC8 := hide (HCx.out.later hb8)
          have HR8 := hide (owns_later' HRx.out hb8)
          have HM8 := hide (HMx.out.trans (Mid.of_below hb8))
          clear how hb8 hws hS8 HCx HRx HMx HWB HLL
          go_wp2_with fail
          go_loopw [5, 10, 34] (fun q5 _ q34 wy => ∃ (j : Nat) (y : ByteArray) (cy : Cu), j ≤ ws.length ∧ q34 = .int .i64 j ∧ q5 = .string y ∧ cy.at' ≤ c.at' + 6 * y.size + 2 ∧ Hid (LJ Ls i ws j (bs y)) ∧ Hid (CurAt wy b a code.length cap cy) ∧ Hid (wy.ownsRow w.heap.size 9 1 (.slice z8 ws.length c8) ws.length (strCells ws)) ∧ Hid (wy.ownsRow w.heap.size 9 1 (.slice (some ⟨rb, ro, none⟩) Ls.length cl) Ls.length (strCells Ls)) ∧ Hid (Mid b (b + 1) w wy)) (fun _ _ q34 _ => ws.length - (intOf q34).toNat)
          case atStart => exact ⟨0, x, cx, Nat.zero_le _, rfl, rfl, hcx, HLJ, HC8, HWR, HR8, HM8⟩
          case round =>
            obtain ⟨j, y, cy, hj, rfl, rfl, hcy, HLY, HCy, HWy, HRy, HMy⟩ := hrel
            rename World => wy
            clear HC8 HWR HR8 HM8 HLJ hcx hxs
            have hys := HJS.out _ _ HLY.out
            have hzy := HMy.out.size
            by_cases hjl : j < ws.length
            · have hji : (j : Int) < (ws.length : Int) := by omega
              obtain ⟨zz, cc, ezz, hS, _⟩ := strs_cap HWy.out
              obtain ⟨rfl, rfl⟩ : z8 = zz ∧ c8 = cc := by simpa using ezz
              obtain ⟨vb, vo, rfl, d0⟩ := hS j hjl
              have hld := cell_lt d0
              have HLW := hide (fun (p : Nat) => show LJ Ls i ws (j + 1) (bs (y ++ ((blkB p ++ sb ws[j]) ++ ⟨#[32]⟩))) by
                rw [bs_app, bs_app, bs_app, bs_sb]
                exact HLY.out.word hjl (HWO.out _ (List.getElem_mem hjl)) (blkB_bs p))
              have hwz : (sb ws[j]).size ≤ 65536 := by rw [sb_size]; exact HWZ.out _ (List.getElem_mem hjl)
              have hA := (Below.refl wy.heap.size wy).alloc (Nat.le_refl _) (.cells #[.string ⟨#[]⟩, .string ⟨#[32]⟩, .string ⟨#[9]⟩] 9)
              have HTB := hide (fun (p : Nat) (hp : p < 3) => new_cell wy #[.string ⟨#[]⟩, .string ⟨#[32]⟩, .string ⟨#[9]⟩] 9 p _ (blkB_get hp))
              have HC6 := hide (HCy.out.later hA)
              have HW6 := hide (owns_later' HWy.out hA)
              have HR6 := hide (owns_later' HRy.out hA)
              have HM6 := hide (HMy.out.trans (Mid.of_below hA))
              obtain ⟨wd, hwd⟩ : ∃ wd, ws[j] = wd := ⟨_, rfl⟩
              rw [hwd] at d0 HLW hwz
              clear hA HCy HWy HRy HMy hS ezz hwd HLY
              go_wp2_with fail
              generalize wy.alloc (.cells #[.string ⟨#[]⟩, .string ⟨#[32]⟩, .string ⟨#[9]⟩] 9) = w6 at *
              refine (pick_any b a cap code cy 3 _ HB.out (by omega) hn HO.out (by omega) (by omega) HC6.out (HX.out.mid HM6.out HO.out)).mono ?_
              rintro e w7 ⟨rfl, hc7, hm7⟩
              have hp4 := pickV_bd (code := code) (n := 3) (by omega) cy
              have hpa := pickC_at code 3 cy
              have HC7 := hide hc7
              have HM7 := hide (HM6.out.trans hm7)
              have HR7 := hide (owns_mid HR6.out hm7 (by omega))
              have HW7 := hide (owns_mid HW6.out hm7 (by omega))
              obtain ⟨pn, hpn⟩ := Int.eq_ofNat_of_zero_le hp4.1
              have hp4n : pn < 3 := by omega
              have htc : w7.cell? ⟨wy.heap.size, pn, none⟩ = some (.string (blkB pn)) := hm7.cell (.inr (by omega)) (HTB.out pn hp4n)
              have hrs := blkB_size pn
              have HLJ2 := hide (HLW.out pn)
              rw [hpn]
              clear hc7 hm7 HC6 HM6 HR6 HW6 HTB hp4 hpn HLW
              generalize pickC code 3 cy = cz at *
              go_wp2_with fail
              go_roundw
              case rel => exact ⟨j + 1, _, cz, by omega, by go_num, rfl, by simp only [ByteArray.size_append]; have : (ByteArray.mk #[32]).size = 1 := rfl; omega, HLJ2, HC7, HW7, HR7, HM7⟩
              case measure => simp [intOf]; omega
            · obtain rfl : j = ws.length := by omega
              have HCE := hide (fun (r : ByteArray) (hr : bs r = [] ∨ bs r = [35, 101, 110, 100]) => show LI Ls (i + 1) (bs ((y ++ r) ++ ⟨#[10]⟩)) by
                rw [bs_app, bs_app]
                exact HCL.out _ HLY.out _ hr)
              clear HLY HWy
              go_wp2_with fail
              refine (pick_any b a cap code cy 5 _ HB.out (by omega) hn HO.out (by omega) (by omega) HCy.out (HX.out.mid HMy.out HO.out)).mono ?_
              rintro e w9 ⟨rfl, hc9, hm9⟩
              have hpa := pickC_at code 5 cy
              have HC9 := hide hc9
              have HM9 := hide (HMy.out.trans hm9)
              have HR9 := hide (owns_mid HRy.out hm9 (by omega))
              clear hc9 hm9 HCy HMy HRy
              generalize pickV code 5 cy = q5 at *
              generalize pickC code 5 cy = cz at *
              by_cases h5 : q5 = 0
              · subst h5
                have HLF := hide (HCE.out ⟨#[35, 101, 110, 100]⟩ (.inr rfl))
                clear HCE
                go_wp2_with fail
                go_roundw
                case rel => exact ⟨i + 1, _, cz, by omega, by go_num, rfl, by simp only [ByteArray.size_append]; have : (ByteArray.mk #[10]).size = 1 := rfl; omega, HLF, HC9, HR9, HM9⟩
                case measure => simp [intOf]; omega
              · have g5 : (q5 == 0) = false := by rw [beq_eq_false_iff_ne]; exact h5
                have HLF : Hid (LI Ls (i + 1) (bs (y ++ ⟨#[10]⟩))) := by
                  have h := HCE.out ⟨#[]⟩ (.inl rfl)
                  rw [bs_app, bs_app, show bs (⟨#[]⟩ : ByteArray) = [] from rfl, List.append_nil, ← bs_app] at h
                  exact h
                clear HCE
                go_wp2_with fail
                go_roundw
                case rel => exact ⟨i + 1, _, cz, by omega, by go_num, rfl, by simp only [ByteArray.size_append]; have : (ByteArray.mk #[10]).size = 1 := rfl; omega, HLF, HC9, HR9, HM9⟩
                case measure => simp [intOf]; omega
    · obtain rfl : i = Ls.length := by omega
      go_wp2_with fail
      go_ret
      exact ⟨o, cu, rfl, HL.out, hca, HC.out, HM.out⟩
end Go.Proofs.YtcodpnkfpmjleaaGreatDoor

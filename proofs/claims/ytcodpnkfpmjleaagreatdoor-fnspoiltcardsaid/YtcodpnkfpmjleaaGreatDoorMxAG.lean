/- The names that are drawn. Own work. -/
import Derived.Test.YtcodpnkfpmjleaaGreatDoorMxAF
import Derived.Deep.RegionWith
import Derived.Test.YtcodpnkfpmjleaaGreatDoorMxAC
import Derived.Test.YtcodpnkfpmjleaaGreatDoorMxAB
import Derived.Test.YtcodpnkfpmjleaaGreatDoorTo
import Derived.Deep.QuietTactic
import Derived.BigQuiet
import Derived.Test.YtcodpnkfpmjleaaGreatDoorMxAA
namespace Go.Proofs.YtcodpnkfpmjleaaGreatDoor
open Go.RowKit
set_option maxHeartbeats 1000000

def nameP (i : Int) : ByteArray := ByteArray.empty.push (UInt8.ofNat (97 + i % 26).toNat) ++ dtext i
theorem nameP_size {i : Int} (h : i ≤ 10000000) : (nameP i).size ≤ 9 := by
  unfold nameP
  rw [size_dig]
  have := dtext_size i h
  omega

theorem conv_at {W : World} {g : Nat} {x : Int} (h : W.cell? ⟨g, 0, none⟩ = some (.int .u8 x)) : (convert 22 9 (.slice (some ⟨g, 0, none⟩) 1 1)).run Tryz.prog W = .ok (.string (ByteArray.empty.push (UInt8.ofNat x.toNat))) W := by
  rw [run_convert_bytes_string _ _ _ _ _ _ _ Tryz.underlying22 Tryz.underlying5 Tryz.underlying9]
  rw [run_bytesToString _ _ _ _ [x] (by simp [loadCells, go_sem, h])]
  rfl
theorem box_d {w w1 : World} {cs : Array Value} {T : TypeId} (hb : Below (w.alloc (.cells cs T)).drew.heap.size (w.alloc (.cells cs T)).drew w1) (i : Nat) (v : Value) (h : cs[i]? = some v) : w1.cell? ⟨w.heap.size, i, none⟩ = some v :=
  cell_keep hb (by simp) (new_cell w cs T i v h)

set_option maxRecDepth 20000 in
theorem name_any (b : Option Addr) (i : Int) (w : World) (h0 : 0 ≤ i) (h1 : i ≤ 10000000) :
    Calls Tryz.prog 55 #[.pointer b, .int .i64 i] w fun e w' =>
    e = .returned (.string (nameP i)) ∧ Below w.heap.size w w' := by
  have hsz := dtext_size i h1
  have htm : i.tmod 26 = i % 26 := Int.tmod_eq_emod_of_nonneg h0
  obtain ⟨x, hx⟩ : ∃ x, 97 + i % 26 = x := ⟨_, rfl⟩
  have hxb : 97 ≤ x ∧ x ≤ 122 := by omega
  have hw64 : IntKind.i64.wrap x = x := by rw [IntKind.wrap_i64]; omega
  have hw8 : IntKind.u8.wrap x = x := by rw [IntKind.wrap_u8]; omega
  have hcv : (convert 22 9 (.slice (some ⟨w.heap.size, 0, none⟩) 1 1)).run Tryz.prog (w.alloc (.cells #[.int .u8 x] 5)).drew = .ok (.string (ByteArray.empty.push (UInt8.ofNat x.toNat))) (w.alloc (.cells #[.int .u8 x] 5)).drew :=
    conv_at (new_cell w #[.int .u8 x] 5 0 _ rfl)
  have HN := hide (show nameP i = ByteArray.empty.push (UInt8.ofNat x.toNat) ++ dtext i by rw [← hx]; rfl)
  generalize hd : dtext i = D at *
  have HD := hide hd
  clear hd
  have hlim : (9223372036854775807 < (ByteArray.empty.push (UInt8.ofNat x.toNat)).size + D.size) = False := by rw [eq_iff_iff, iff_false, ByteArray.size_push]; simp; omega
  have hlim2 : (9223372036854775807 < 1 + D.size) = False := by rw [eq_iff_iff, iff_false]; omega
  go_enter Tryz.func55, Tryz.ntmps55
  go_wp2_with fail
  go_region_with (go_at_call 26; refine (l2decimal_any i _ h0 h1).mono ?_; rintro e w1 ⟨rfl, hb1⟩; rw [HD.out]; have hcv1 := conv1 w1 x; try (have hcv2 := conv_at (box_d hb1 0 _ rfl)))
  all_goals
    go_wp2_with fail
    go_ret
    refine ⟨by rw [HN.out]; rfl, ?_⟩
    first
      | exact ((((Below.refl w.heap.size w).alloc (Nat.le_refl _) _).drew).trans (hb1.mono (by simp)))
      | exact (((Below.refl w.heap.size w).drew).trans hb1).alloc hb1.size _
end Go.Proofs.YtcodpnkfpmjleaaGreatDoor

namespace Go.Proofs.YtcodpnkfpmjleaaGreatDoor
open Go.RowKit
set_option maxHeartbeats 1000000

end Go.Proofs.YtcodpnkfpmjleaaGreatDoor

namespace Go.Proofs.YtcodpnkfpmjleaaGreatDoor
open Go.RowKit
set_option maxHeartbeats 1000000

def lenAt (N : Nt) (q : Int) : Int := match N.pcs[q.toNat]? with
  | some p => p.len
  | none => 0
def spotP (N : Nt) (q at' way : Int) : Bool := inR q 0 ((N.pcs.length : Int) - 1) && (way == 1 || way == -1) && inR at' 0 (lenAt N q)

theorem l1in_b {x a b : Int} {r : Bool} (h : inR x a b = r) (w : World) : Calls Tryz.prog 45 #[.int .i64 x, .int .i64 a, .int .i64 b] w fun e w' =>
    e = .returned (.bool r) ∧ w' = w := (l1in_any x a b w).mono fun _ _ h' => ⟨by rw [h'.1, h], h'.2.symm⟩

end Go.Proofs.YtcodpnkfpmjleaaGreatDoor

namespace Go.Proofs.YtcodpnkfpmjleaaGreatDoor
open Go.RowKit
set_option maxHeartbeats 1000000

def headP (q way : Int) : Int × Int := if way = 1 then (q, 1) else (q, 0)
def enterP (N : Nt) (e : Int × Int) : Int × Int × Int := if e.2 = 0 then (e.1, 0, 1) else (e.1, lenAt N e.1, -1)
def roomP (N : Nt) (q at' way : Int) : Int := if way = 1 then lenAt N q - at' else at'

theorem lenAt_nat (N : Nt) (k : Nat) (hk : k < N.pcs.length) : lenAt N (k : Int) = N.pcs[k].len := by simp [lenAt, hk]

/-- A list of numbers in memory. -/
def IntsAt (w : World) (a : Option Addr) (xs : List Int) : Prop :=
  ∀ k (_ : k < xs.length), ∃ b off, a = some ⟨b, off, none⟩ ∧ w.cell? ⟨b, off + k, none⟩ = some (.int .i64 xs[k])

theorem IntsAt.later {w w' : World} {a xs} (h : IntsAt w a xs) (hb : Below w.heap.size w w') : IntsAt w' a xs := by
  intro k hk
  obtain ⟨b, off, ha, h1⟩ := h k hk
  exact ⟨b, off, ha, cell_later' hb h1⟩

def lieOk (j : Jt) (x : Int) : Bool := inR x 0 2 && !((x != 0) && (j.kind != 3))
def liesP (js : List Jt) (xs : List Int) : Bool := decide (xs.length = js.length) && (js.zip xs).all (fun z => lieOk z.1 z.2)

theorem liesP_bad {js : List Jt} {xs : List Int} {k : Nat} (hj : k < js.length) (hx : k < xs.length) (h : lieOk js[k] xs[k] = false) : liesP js xs = false := by
  have : (js.zip xs).all (fun z => lieOk z.1 z.2) = false := by
    rw [List.all_eq_false]
    refine ⟨(js[k], xs[k]), ?_, by simp [h]⟩
    rw [List.mem_iff_getElem]
    exact ⟨k, by simp; omega, by simp⟩
  simp [liesP, this]

theorem liesP_good {js : List Jt} {xs : List Int} (hl : xs.length = js.length) (h : ∀ k (hj : k < js.length) (hx : k < xs.length), lieOk js[k] xs[k] = true) : liesP js xs = true := by
  have : (js.zip xs).all (fun z => lieOk z.1 z.2) = true := by
    rw [List.all_eq_true]
    intro z hz
    obtain ⟨k, hk, rfl⟩ := List.getElem_of_mem hz
    simp at hk ⊢
    exact h k (by omega) (by omega)
  simp [liesP, this, hl]

end Go.Proofs.YtcodpnkfpmjleaaGreatDoor

namespace Go.Proofs.YtcodpnkfpmjleaaGreatDoor
open Go.RowKit
set_option maxHeartbeats 1000000

def goodP (N : Nt) (xs : List Int) (q at' way far : Int) : Bool := decide (netOk N = (0, 0)) && liesP N.jts xs && spotP N q at' way && inR far 0 1000000

end Go.Proofs.YtcodpnkfpmjleaaGreatDoor

/- More plain lemmas. Own work. -/
namespace Go.Proofs.YtcodpnkfpmjleaaGreatDoor

def jb3 (n : Nat) (j : Jt) : Bool := !(inR j.kind 1 4) || ((j.ends.length : Int) != j.kind) || j.ends.any (fun e => !endOk n e)
def jnOk (j : Jt) : Bool := if j.kind < 3 then j.name.toList.isEmpty else nm j.name
theorem jtBad3_jb3 {n : Nat} {js : List Jt} {k : Nat} (hk : k < js.length) : jtBad3 n js k = jb3 n js[k] := by rw [jtBad3_eq hk]; rfl
theorem jb3_none {n : Nat} {j : Jt} (h : j.kind < 1 ∨ 4 < j.kind) : jb3 n j = true := by
  have : inR j.kind 1 4 = false := by rw [Bool.eq_false_iff]; simp [inR]; omega
  simp [jb3, this]
theorem jb3_some {n : Nat} {j : Jt} {c : Int} (h : j.kind = c) (h1 : 1 ≤ c) (h4 : c ≤ 4) : jb3 n j = (((j.ends.length : Int) != c) || j.ends.any (fun e => !endOk n e)) := by
  have : inR j.kind 1 4 = true := by simp [inR]; omega
  rw [jb3, this, h]; rfl
theorem jb3_kind {n : Nat} {j : Jt} (h : jb3 n j = false) : 1 ≤ j.kind ∧ j.kind ≤ 4 := by
  simp [jb3, inR] at h; omega
end Go.Proofs.YtcodpnkfpmjleaaGreatDoor

import Derived.Test.YtomeaepdlbomfacStA
namespace Go.Proofs.Ytomeaepdlbomfac
open Go.RowKit
set_option maxHeartbeats 1000000

def headP (q way : Int) : Int × Int := if way = 1 then (q, 1) else (q, 0)
def enterP (N : Nt) (e : Int × Int) : Int × Int × Int := if e.2 = 0 then (e.1, 0, 1) else (e.1, lenAt N e.1, -1)
def roomP (N : Nt) (q at' way : Int) : Int := if way = 1 then lenAt N q - at' else at'

theorem l3head_any (q at' way : Int) (w : World) :
    Calls Try.prog 35 #[.agg #[.int .i64 q, .int .i64 at', .int .i64 way]] w fun e w' =>
    e = .returned (.agg #[.int .i64 (headP q way).1, .int .i64 (headP q way).2]) ∧ Below w.heap.size w w' := by
  by_cases h : way = 1
  · subst h
    go_enter Try.func35, Try.ntmps35
    go_wp2
    exact bodyPost_ret (v := .agg #[.int .i64 q, .int .i64 1]) (by simp [results, Try.results35, go_sem]) rfl ⟨rfl, ((Below.refl _ _).alloc (Nat.le_refl _) _).alloc (by simp) _⟩
  · have hb : (way == 1) = false := by rw [beq_eq_false_iff_ne]; exact h
    have H := hide (show headP q way = (q, 0) by simp [headP, h])
    clear h
    go_enter Try.func35, Try.ntmps35
    go_wp2
    exact bodyPost_ret (v := .agg #[.int .i64 q, .int .i64 0]) (by simp [results, Try.results35, go_sem]) rfl ⟨by rw [H.out], ((Below.refl _ _).alloc (Nat.le_refl _) _).alloc (by simp) _⟩

theorem lenAt_nat (N : Nt) (k : Nat) (hk : k < N.pcs.length) : lenAt N (k : Int) = N.pcs[k].len := by simp [lenAt, hk]

/-- A list of numbers in memory. -/
def IntsAt (w : World) (a : Option Addr) (xs : List Int) : Prop :=
  ∀ k (_ : k < xs.length), ∃ b off, a = some ⟨b, off, none⟩ ∧ w.cell? ⟨b, off + k, none⟩ = some (.int .i64 xs[k])

theorem IntsAt.later {w w' : World} {a xs} (h : IntsAt w a xs) (hb : Below w.heap.size w w') : IntsAt w' a xs := by
  intro k hk
  obtain ⟨b, off, ha, h1⟩ := h k hk
  exact ⟨b, off, ha, cell_later' hb h1⟩

def lieOk (j : Jt) (x : Int) : Bool := inR x 0 2 && !((x != 0) && (j.kind != 3))
def liesP (js : List Jt) (xs : List Int) : Bool := decide (xs.length = js.length) && (js.zip xs).all (fun z => lieOk z.1 z.2)

theorem liesP_bad {js : List Jt} {xs : List Int} {k : Nat} (hj : k < js.length) (hx : k < xs.length) (h : lieOk js[k] xs[k] = false) : liesP js xs = false := by
  have : (js.zip xs).all (fun z => lieOk z.1 z.2) = false := by
    rw [List.all_eq_false]
    refine ⟨(js[k], xs[k]), ?_, by simp [h]⟩
    rw [List.mem_iff_getElem]
    exact ⟨k, by simp; omega, by simp⟩
  simp [liesP, this]

theorem liesP_good {js : List Jt} {xs : List Int} (hl : xs.length = js.length) (h : ∀ k (hj : k < js.length) (hx : k < xs.length), lieOk js[k] xs[k] = true) : liesP js xs = true := by
  have : (js.zip xs).all (fun z => lieOk z.1 z.2) = true := by
    rw [List.all_eq_true]
    intro z hz
    obtain ⟨k, hk, rfl⟩ := List.getElem_of_mem hz
    simp at hk ⊢
    exact h k (by omega) (by omega)
  simp [liesP, this, hl]

end Go.Proofs.Ytomeaepdlbomfac

/- The plain data of a net, and how it lies in memory. Own work. -/
import Derived.WalkKit
import Derived.ProofKit
namespace Go.Proofs.YtokhbnlpifmjkaaDoor
open Go.RowKit

theorem hide {p : Prop} (h : p) : Hid p := h

structure Pc where
  name : ByteArray
  len : Int
  speed : Int
  brake : Int

structure Jt where
  kind : Int
  name : ByteArray
  ends : List (Int × Int)

structure Nt where
  pcs : List Pc
  jts : List Jt

/-- An end whose numbers fit. -/
def Wf2 (e : Int × Int) : Prop := (Lit.int .i64 e.1).wf = true ∧ (Lit.int .i64 e.2).wf = true

abbrev vI (x : Int) : Value := .int .i64 x
def Pc.val (p : Pc) : Value := .agg #[.string p.name, .int .i64 p.len, .int .i64 p.speed, .int .i64 p.brake]

def EndsAt (w : World) (a : Option Addr) (es : List (Int × Int)) : Prop :=
  ∀ k (_ : k < es.length), ∃ b off, a = some ⟨b, off, none⟩ ∧ w.cell? ⟨b, off + k * 2, none⟩ = some (.int .i64 es[k].1) ∧ w.cell? ⟨b, off + k * 2 + 1, none⟩ = some (.int .i64 es[k].2)

def PcsAt (w : World) (a : Option Addr) (ps : List Pc) : Prop :=
  ∀ k (_ : k < ps.length), ∃ b off, a = some ⟨b, off, none⟩ ∧ w.cell? ⟨b, off + k * 4, none⟩ = some (.string ps[k].name) ∧ w.cell? ⟨b, off + k * 4 + 1, none⟩ = some (.int .i64 ps[k].len) ∧ w.cell? ⟨b, off + k * 4 + 2, none⟩ = some (.int .i64 ps[k].speed) ∧ w.cell? ⟨b, off + k * 4 + 3, none⟩ = some (.int .i64 ps[k].brake)

def JtsAt (w : World) (a : Option Addr) (js : List Jt) : Prop :=
  ∀ k (_ : k < js.length), ∃ b off e cap, a = some ⟨b, off, none⟩ ∧ w.cell? ⟨b, off + k * 3, none⟩ = some (.int .i64 js[k].kind) ∧ w.cell? ⟨b, off + k * 3 + 1, none⟩ = some (.string js[k].name) ∧ w.cell? ⟨b, off + k * 3 + 2, none⟩ = some (.slice e js[k].ends.length cap) ∧ EndsAt w e js[k].ends

theorem cell_lt {w : World} {b o : Nat} {v : Value} (h : w.cell? ⟨b, o, none⟩ = some v) : b < w.heap.size := by
  by_cases hb : b < w.heap.size
  · exact hb
  · have : w.heap[b]? = none := by simp; omega
    simp [World.cell?, this] at h

theorem cell_keep {w w' : World} {B b o : Nat} {v : Value} (hb : Below B w w') (hB : b < B) (h : w.cell? ⟨b, o, none⟩ = some v) : w'.cell? ⟨b, o, none⟩ = some v := by
  rw [hb.cell (p := ⟨b, o, none⟩) hB]; exact h

theorem cell_later' {w w' : World} {b o : Nat} {v : Value} (hb : Below w.heap.size w w') (h : w.cell? ⟨b, o, none⟩ = some v) : w'.cell? ⟨b, o, none⟩ = some v :=
  cell_keep hb (cell_lt h) h

theorem new_cell (w : World) (cs : Array Value) (T : TypeId) (i : Nat) (v : Value) (h : cs[i]? = some v) : (w.alloc (.cells cs T)).cell? ⟨w.heap.size, i, none⟩ = some v := by
  rw [World.cell?_alloc_at cs T _ i rfl, h]

theorem box_cell {w w1 : World} {cs : Array Value} {T : TypeId} (hb : Below (w.alloc (.cells cs T)).heap.size (w.alloc (.cells cs T)) w1) (i : Nat) (v : Value) (h : cs[i]? = some v) : w1.cell? ⟨w.heap.size, i, none⟩ = some v :=
  cell_keep hb (by simp) (new_cell w cs T i v h)

theorem bcell {W w1 : World} (hb : Below W.heap.size W w1) : (∀ b o, b < W.heap.size → w1.cell? ⟨b, o, none⟩ = W.cell? ⟨b, o, none⟩) ∧ (∀ b o, b < W.heap.size → w1.frozen? ⟨b, o, none⟩ = W.frozen? ⟨b, o, none⟩) :=
  ⟨fun b o h => hb.cell (p := ⟨b, o, none⟩) h, fun b o h => hb.frozen (p := ⟨b, o, none⟩) h⟩

theorem EndsAt.later {w w' : World} {a es} (h : EndsAt w a es) (hb : Below w.heap.size w w') : EndsAt w' a es := by
  intro k hk
  obtain ⟨b, off, ha, h1, h2⟩ := h k hk
  exact ⟨b, off, ha, cell_later' hb h1, cell_later' hb h2⟩

theorem PcsAt.later {w w' : World} {a ps} (h : PcsAt w a ps) (hb : Below w.heap.size w w') : PcsAt w' a ps := by
  intro k hk
  obtain ⟨b, off, ha, h1, h2, h3, h4⟩ := h k hk
  exact ⟨b, off, ha, cell_later' hb h1, cell_later' hb h2, cell_later' hb h3, cell_later' hb h4⟩

theorem JtsAt.later {w w' : World} {a js} (h : JtsAt w a js) (hb : Below w.heap.size w w') : JtsAt w' a js := by
  intro k hk
  obtain ⟨b, off, e, cap, ha, h1, h2, h3, h4⟩ := h k hk
  exact ⟨b, off, e, cap, ha, cell_later' hb h1, cell_later' hb h2, cell_later' hb h3, h4.later hb⟩
end Go.Proofs.YtokhbnlpifmjkaaDoor

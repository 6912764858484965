import Derived.Test.YtokhbnlpifmjkaaDoorTxA
import Derived.Test.YtokhbnlpifmjkaaDoorJaO
import Derived.Deep.RegionWith
namespace Go.Proofs.YtokhbnlpifmjkaaDoor
open Go.RowKit
set_option maxHeartbeats 2000000

/-- A piece's line. -/
def lineP (p : Pc) : ByteArray := ((((((⟨#[112, 105, 101, 99, 101, 32]⟩ ++ p.name) ++ ⟨#[32]⟩) ++ dtext p.len) ++ ⟨#[32, 115, 112, 101, 101, 100, 32]⟩) ++ dtext p.speed) ++ ⟨#[32, 98, 114, 97, 107, 101, 32]⟩) ++ dtext p.brake ++ ⟨#[10]⟩
def wPcs (ps : List Pc) (o : ByteArray) : ByteArray := ps.foldl (fun o p => o ++ lineP p) o

theorem wPcs_succ (ps : List Pc) (k : Nat) (hk : k < ps.length) (o : ByteArray) : wPcs (ps.take (k + 1)) o = wPcs (ps.take k) o ++ lineP ps[k] := by
  unfold wPcs
  rw [List.take_succ_eq_append_getElem hk, List.foldl_append]
  rfl

theorem pc_ok_bounds {p : Pc} (h : p.ok = true) : p.name.size ≤ 20 ∧ (1 ≤ p.len ∧ p.len ≤ 10000000) ∧ (1 ≤ p.speed ∧ p.speed ≤ 10000) ∧ (1 ≤ p.brake ∧ p.brake ≤ 1000) := by
  simp [Pc.ok, nm, inR] at h
  omega

theorem lineP_size {p : Pc} (h : p.ok = true) : (lineP p).size ≤ 100 := by
  have hb := pc_ok_bounds h
  have h1 := dtext_size p.len (by omega)
  have h2 := dtext_size p.speed (by omega)
  have h3 := dtext_size p.brake (by omega)
  unfold lineP
  simp only [ByteArray.size_append]
  have e1 : (ByteArray.mk #[112, 105, 101, 99, 101, 32]).size = 6 := rfl
  have e2 : (ByteArray.mk #[32]).size = 1 := rfl
  have e3 : (ByteArray.mk #[32, 115, 112, 101, 101, 100, 32]).size = 7 := rfl
  have e4 : (ByteArray.mk #[32, 98, 114, 97, 107, 101, 32]).size = 7 := rfl
  have e5 : (ByteArray.mk #[10]).size = 1 := rfl
  omega

theorem wPcs_size {ps : List Pc} (h : ∀ p ∈ ps, p.ok = true) (o : ByteArray) : (wPcs ps o).size ≤ o.size + ps.length * 100 := by
  induction ps generalizing o with
  | nil => simp [wPcs]
  | cons p ps ih =>
    have h1 := lineP_size (h p (List.mem_cons_self ..))
    have h2 := ih (fun q hq => h q (List.mem_cons_of_mem _ hq)) (o ++ lineP p)
    have e : wPcs (p :: ps) o = wPcs ps (o ++ lineP p) := rfl
    rw [e, List.length_cons]
    rw [ByteArray.size_append] at h2
    omega
end Go.Proofs.YtokhbnlpifmjkaaDoor

/- More plain lemmas. Own work. -/
import Derived.Test.YtokhbnlpifmjkaaDoorPl
namespace Go.Proofs.YtokhbnlpifmjkaaDoor

def jb3 (n : Nat) (j : Jt) : Bool := !(inR j.kind 1 4) || ((j.ends.length : Int) != j.kind) || j.ends.any (fun e => !endOk n e)
def jnOk (j : Jt) : Bool := if j.kind < 3 then j.name.toList.isEmpty else nm j.name
theorem jtBad3_jb3 {n : Nat} {js : List Jt} {k : Nat} (hk : k < js.length) : jtBad3 n js k = jb3 n js[k] := by rw [jtBad3_eq hk]; rfl
theorem jb3_none {n : Nat} {j : Jt} (h : j.kind < 1 ∨ 4 < j.kind) : jb3 n j = true := by
  have : inR j.kind 1 4 = false := by rw [Bool.eq_false_iff]; simp [inR]; omega
  simp [jb3, this]
theorem jb3_some {n : Nat} {j : Jt} {c : Int} (h : j.kind = c) (h1 : 1 ≤ c) (h4 : c ≤ 4) : jb3 n j = (((j.ends.length : Int) != c) || j.ends.any (fun e => !endOk n e)) := by
  have : inR j.kind 1 4 = true := by simp [inR]; omega
  rw [jb3, this, h]; rfl
theorem jb3_kind {n : Nat} {j : Jt} (h : jb3 n j = false) : 1 ≤ j.kind ∧ j.kind ≤ 4 := by
  simp [jb3, inR] at h; omega
end Go.Proofs.YtokhbnlpifmjkaaDoor

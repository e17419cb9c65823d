import Derived.Test.YtdgaabkgfbihpaaSA
import Derived.Test.YtdgaabkgfbihpaaVLLol
import Derived.Test.YtdgaabkgfbihpaaVLArr
/- Parts of the proof, one after another. No conditions of their own. -/
/- A part of the proof: P21. No conditions of its own. -/
namespace Go.Proofs.Ytdgaabkgfbihpaa
open Go.VL
attribute [local irreducible] VWr VOps VD Calls

/-- How many numbers. -/
def sumLen : List (List Int) → Nat
  | [] => 0
  | l :: ls => l.length + sumLen ls
/-- All numbered from k on. -/
def markLL (k : Int) : List (List Int) → List (List Int)
  | [] => []
  | l :: ls => iota k l.length :: markLL (k + l.length) ls
/-- i rows numbered, the others as they were. -/
def mkTo (k : Int) (ls : List (List Int)) (i : Nat) : List (List Int) := markLL k (ls.take i) ++ ls.drop i
/-- One of the rows, and the others. -/
theorem RowsAt.split {ei : Nat} : ∀ {ls : List (List Int)} {vs : List Value} {ns : List Own}, Go.VL.RowsAt ei ls vs ns → ∀ {i : Nat} {l : List Int}, ls[i]? = some l →
    ∃ u n ns1 ns2, vs[i]? = some u ∧ ns = ns1 ++ n :: ns2 ∧ NewI ei l u n ∧ ∀ l' n', NewI ei l' u n' → Go.VL.RowsAt ei (ls.set i l') vs (ns1 ++ n' :: ns2)
  | [], [], [], _, i, l, hl => by simp at hl
  | l0 :: ls, u0 :: vs, n0 :: ns, h, 0, l, hl => by
    have e : l0 = l := by simpa using hl
    subst e
    exact ⟨u0, n0, [], ns, rfl, rfl, h.1, fun l' n' hn => ⟨hn, h.2⟩⟩
  | l0 :: ls, u0 :: vs, n0 :: ns, h, i + 1, l, hl => by
    obtain ⟨u, n, ns1, ns2, h1, h2, h3, h4⟩ := RowsAt.split h.2 (i := i) (l := l) (by simpa using hl)
    exact ⟨u, n, n0 :: ns1, ns2, by simpa using h1, by rw [h2]; rfl, h3, fun l' n' hn => ⟨h.1, h4 l' n' hn⟩⟩
  | [], _ :: _, _, h, _, _, _ => h.elim
  | [], [], _ :: _, h, _, _, _ => h.elim
  | _ :: _, [], _, h, _, _, _ => h.elim
  | _ :: _, _ :: _, [], h, _, _, _ => h.elim
def MarkedLL (eo ei : Nat) (ls : List (List Int)) (k0 : Int) (v : Value) (u : Value) (new : Own) : Prop := u = .int .i64 (k0 + sumLen ls) ∧ NewLL eo ei (markLL k0 ls) v new
theorem rdI_F {w : World} {v : Value} {l : List Int} (h : RdI w v l) : RdF w 1 l.length v l := by
  rcases h with ⟨a, cap, h1, rfl⟩ | ⟨b, o, cap, h1, h2⟩
  · exact .inl ⟨a, cap, h1, rfl, rfl⟩
  · exact .inr ⟨b, o, cap, h1, by simp, h2⟩

end Go.Proofs.Ytdgaabkgfbihpaa


/-
  A node held against a part of a selector, on lists; each theorem names its conditions.
-/
import Derived.Test.YtaeepbjdhcbofaaDoorAttrV
import Derived.Test.YtaeepbjdhcbofaaDoorPart
import Derived.Test.YtaeepbjdhcbofaaDoorHas
import Derived.Test.YtaeepbjdhcbofaaDoorFlds
import Derived.Test.YtaeepbjdhcbofaaDoorTxs
import Derived.Test.YtaeepbjdhcbofaaDoorMkNs
namespace Go.Proofs.YtaeepbjdhcbofaaDoor
open Go.ChangeShapes Go.WideShapes Go.ChangeAt Go.RowKit
set_option linter.unusedVariables false

def idT : ByteArray := ⟨#[105, 100]⟩
def classT : ByteArray := ⟨#[99, 108, 97, 115, 115]⟩
def tyFits (ty name : ByteArray) : Bool := ty.toList.isEmpty || (ty.toList == [42]) || (ty.toList == name.toList)
def idFits (id v : ByteArray) : Bool := id.toList.isEmpty || (id.toList == v.toList)
def AllTo (ws cls : List ByteArray) (k : Nat) : Prop := ∀ i, i < k → hasB ws (strAt cls i) = true
def clsAll (ws cls : List ByteArray) : Bool := (List.range cls.length).all fun i => hasB ws (strAt cls i)
theorem clsAll_iff (ws cls : List ByteArray) : clsAll ws cls = true ↔ AllTo ws cls cls.length := by
  unfold clsAll AllTo
  rw [List.all_eq_true]
  simp only [List.mem_range]
theorem AllTo.step {ws cls : List ByteArray} {k : Nat} (h : AllTo ws cls k) (e : hasB ws (strAt cls k) = true) : AllTo ws cls (k + 1) := by
  intro i hi
  by_cases c : i = k
  · subst c; exact e
  · exact h i (by omega)
theorem clsAll_no {ws cls : List ByteArray} {k : Nat} (hk : k < cls.length) (e : hasB ws (strAt cls k) = false) : clsAll ws cls = false := by
  cases h : clsAll ws cls with
  | false => rfl
  | true => have := (clsAll_iff ws cls).1 h k hk; rw [e] at this; cases this
def fitB (n : ND) (p : PD) : Bool := tyFits p.ty n.name && (idFits p.id (attrV n.attrs idT) && clsAll (wordsOf (attrV n.attrs classT)) p.cls)
/-- The ways of a type held against a name. -/
theorem tyFits_ways (ty name : ByteArray) : (ty = ⟨#[]⟩ ∧ tyFits ty name = true) ∨ (ty = ⟨#[42]⟩ ∧ tyFits ty name = true) ∨ ((¬ ty.toList = []) ∧ ty.toList.isEmpty = false ∧ (ty.toList == [42]) = false ∧ (ty.toList == name.toList) = tyFits ty name) := by
  rcases tyWay ty with ⟨h, _⟩ | ⟨h, _⟩ | ⟨h1, h2, h3, _⟩
  · subst h; exact Or.inl ⟨rfl, by simp [tyFits, ByteArray.toList_eq]⟩
  · subst h; exact Or.inr (Or.inl ⟨rfl, by simp [tyFits, ByteArray.toList_eq]⟩)
  · exact Or.inr (Or.inr ⟨h1, h2, h3, by unfold tyFits; rw [h2, h3]; simp⟩)
theorem idFits_ways (id v : ByteArray) : (id = ⟨#[]⟩ ∧ idFits id v = true) ∨ ((¬ id.toList = []) ∧ id.toList.isEmpty = false ∧ (id.toList == v.toList) = idFits id v) := by
  rcases idWay id with ⟨h, _⟩ | ⟨h1, h2, _⟩
  · subst h; exact Or.inl ⟨rfl, by simp [idFits, ByteArray.toList_eq]⟩
  · exact Or.inr ⟨h1, h2, by unfold idFits; rw [h2]; simp⟩
theorem beq_flip (x y : ByteArray) : (y.toList == x.toList) = (x.toList == y.toList) := by
  rw [Bool.eq_iff_iff]; simp; exact ⟨Eq.symm, Eq.symm⟩
theorem beq_of {x y : ByteArray} (h : (x.toList == y.toList) = true) : x = y := by
  by_cases e : x = y
  · exact e
  · rw [beq_no e] at h; cases h
/-- A node and a part in two new blocks. -/
structure Bx (W : World) (B : Nat) (nm : ByteArray) (up : Int) (av : Value) (tx ty id : ByteArray) (cv : Value) : Prop where
  lt : B + 1 < W.heap.size
  n0 : W.cell? ⟨B, 0, none⟩ = some (.string nm)
  n1 : W.cell? ⟨B, 1, none⟩ = some (.int .i64 up)
  n2 : W.cell? ⟨B, 2, none⟩ = some av
  n3 : W.cell? ⟨B, 3, none⟩ = some (.string tx)
  p0 : W.cell? ⟨B + 1, 0, none⟩ = some (.string ty)
  p1 : W.cell? ⟨B + 1, 1, none⟩ = some (.string id)
  p2 : W.cell? ⟨B + 1, 2, none⟩ = some cv
theorem Bx.nw {W W' : World} {B : Nat} {nm : ByteArray} {up : Int} {av : Value} {tx ty id : ByteArray} {cv : Value} (h : Bx W B nm up av tx ty id cv) (k : Nw W W') : Bx W' B nm up av tx ty id cv := by
  have c0 := fun o => (bcell k).1 B o (by have := h.lt; omega)
  have c1 := fun o => (bcell k).1 (B + 1) o h.lt
  exact ⟨Nat.lt_of_lt_of_le h.lt (Below.size k), (c0 _).trans h.n0, (c0 _).trans h.n1, (c0 _).trans h.n2, (c0 _).trans h.n3, (c1 _).trans h.p0, (c1 _).trans h.p1, (c1 _).trans h.p2⟩
theorem Bx.start (w : World) (nm : ByteArray) (up : Int) (av : Value) (tx ty id : ByteArray) (cv : Value) (t u : TypeId) : Bx ((w.alloc (.cells #[.string nm, .int .i64 up, av, .string tx] t)).alloc (.cells #[.string ty, .string id, cv] u)) w.heap.size nm up av tx ty id cv := by
  constructor <;> simp
end Go.Proofs.YtaeepbjdhcbofaaDoor

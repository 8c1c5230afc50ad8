/-
  Tints, as pure functions: which are good; thinned, laid over, made of a color; each theorem names its conditions.
-/
import Derived.Test.YthlohbiocfeapaaQ4
import Derived.Test.YthlohbiocfeapaaIn
namespace Go.Proofs.Ythlohbiocfeapaa
open Go.ChangeShapes Go.WideShapes Go.ChangeAt Go.RowKit
set_option linter.unusedVariables false

def inN (x a b : Int) : Bool := decide (a ≤ x ∧ x ≤ b)
/-- A good tint. -/
def tnB (t : Edg) : Bool := inN t.cy 0 255 && (inN t.ax 0 t.cy && (inN t.ay 0 t.cy && inN t.bx 0 t.cy))
theorem tnB_some {t : Edg} (h : tnB t = true) : (0 ≤ t.ax ∧ t.ax ≤ 255) ∧ (0 ≤ t.ay ∧ t.ay ≤ 255) ∧ (0 ≤ t.bx ∧ t.bx ≤ 255) ∧ (0 ≤ t.cy ∧ t.cy ≤ 255) := by
  unfold tnB inN at h
  simp only [Bool.and_eq_true, decide_eq_true_eq] at h
  omega
def ok8 (x : Int) : Prop := 0 ≤ x ∧ x ≤ 255
def thinC (x p : Int) : Int := (x * p + 128) / 256
def thinT (t : Edg) (p : Int) : Edg := ⟨thinC t.ax p, thinC t.ay p, thinC t.bx p, thinC t.cy p⟩
def overC (x u m : Int) : Int := x + (u * m + 127) / 255
def overT (t u : Edg) : Edg := ⟨overC t.ax u.ax (255 - t.cy), overC t.ay u.ay (255 - t.cy), overC t.bx u.bx (255 - t.cy), overC t.cy u.cy (255 - t.cy)⟩
def colC (x a : Int) : Int := (x * a + 127) / 255
def colA (p : Int) : Int := (255 * p + 128) / 256
def colT (r g b p : Int) : Edg := ⟨colC r (colA p), colC g (colA p), colC b (colA p), colA p⟩
theorem thin_f {x p : Int} (hx : 0 ≤ x ∧ x ≤ 255) (hp : 0 ≤ p ∧ p ≤ 256) : 0 ≤ x * p ∧ x * p ≤ 65280 ∧ (x * p + 128).tdiv 256 = thinC x p ∧ 0 ≤ thinC x p ∧ thinC x p ≤ 255 := by
  have h0 : 0 ≤ x * p := Int.mul_nonneg hx.1 hp.1
  have h1 : x * p ≤ 65280 := Int.le_trans (Int.mul_le_mul hx.2 hp.2 hp.1 (by decide)) (by decide)
  unfold thinC
  generalize x * p = z at *
  exact ⟨h0, h1, Int.tdiv_eq_ediv_of_nonneg (by omega), by omega, by omega⟩
theorem over_f {x u m : Int} (hx : 0 ≤ x ∧ x ≤ 255) (hu : 0 ≤ u ∧ u ≤ 255) (hm : 0 ≤ m ∧ m ≤ 255) : 0 ≤ u * m ∧ u * m ≤ 65025 ∧ (u * m + 127).tdiv 255 = (u * m + 127) / 255 ∧ 0 ≤ (u * m + 127) / 255 ∧ (u * m + 127) / 255 ≤ 255 := by
  have h0 : 0 ≤ u * m := Int.mul_nonneg hu.1 hm.1
  have h1 : u * m ≤ 65025 := Int.le_trans (Int.mul_le_mul hu.2 hm.2 hm.1 (by decide)) (by decide)
  generalize u * m = z at *
  exact ⟨h0, h1, Int.tdiv_eq_ediv_of_nonneg (by omega), by omega, by omega⟩
theorem col_f {x a : Int} (hx : 0 ≤ x ∧ x ≤ 255) (ha : 0 ≤ a ∧ a ≤ 255) : 0 ≤ x * a ∧ x * a ≤ 65025 ∧ (x * a + 127).tdiv 255 = colC x a := by
  have h := over_f (x := 0) (by omega) hx ha
  exact ⟨h.1, h.2.1, h.2.2.1⟩
theorem colA_f {p : Int} (hp : 0 ≤ p ∧ p ≤ 256) : (255 * p + 128).tdiv 256 = colA p ∧ 0 ≤ colA p ∧ colA p ≤ 255 := by
  unfold colA
  exact ⟨Int.tdiv_eq_ediv_of_nonneg (by omega), by omega, by omega⟩
/-- What ThinTint, OverTint and TintOf answer. -/
def thV (t : Edg) (p : Int) : Edg × Bool := if tnB t && inN p 0 256 then (thinT t p, true) else (noE, false)
def ovV (t u : Edg) : Edg × Bool := if tnB t && tnB u then (overT t u, true) else (noE, false)
def coV (r g b p : Int) : Edg × Bool := if inN r 0 255 && (inN g 0 255 && (inN b 0 255 && inN p 0 256)) then (colT r g b p, true) else (noE, false)
theorem set4 (w : World) (b : Nat) (x0 x1 x2 x3 : Value) {u0 u1 u2 u3 : Value} (h0 : w.cell? ⟨b, 0, none⟩ = some u0) (h1 : w.cell? ⟨b, 1, none⟩ = some u1) (h2 : w.cell? ⟨b, 2, none⟩ = some u2) (h3 : w.cell? ⟨b, 3, none⟩ = some u3) :
    ((((w.setCell ⟨b, 0, none⟩ x0).setCell ⟨b, 1, none⟩ x1).setCell ⟨b, 2, none⟩ x2).setCell ⟨b, 3, none⟩ x3).cell? ⟨b, 0, none⟩ = some x0 ∧ ((((w.setCell ⟨b, 0, none⟩ x0).setCell ⟨b, 1, none⟩ x1).setCell ⟨b, 2, none⟩ x2).setCell ⟨b, 3, none⟩ x3).cell? ⟨b, 1, none⟩ = some x1 ∧
    ((((w.setCell ⟨b, 0, none⟩ x0).setCell ⟨b, 1, none⟩ x1).setCell ⟨b, 2, none⟩ x2).setCell ⟨b, 3, none⟩ x3).cell? ⟨b, 2, none⟩ = some x2 ∧ ((((w.setCell ⟨b, 0, none⟩ x0).setCell ⟨b, 1, none⟩ x1).setCell ⟨b, 2, none⟩ x2).setCell ⟨b, 3, none⟩ x3).cell? ⟨b, 3, none⟩ = some x3 := by
  have far : ∀ (w : World) (o o' : Nat) (u : Value), o ≠ o' → (w.setCell ⟨b, o, none⟩ u).cell? ⟨b, o', none⟩ = w.cell? ⟨b, o', none⟩ := fun w o o' u h => World.cell?_setCell_other _ _ _ _ (fun e => by injection e; omega)
  refine ⟨?_, ?_, ?_, ?_⟩
  · rw [far _ 3 0 _ (by omega), far _ 2 0 _ (by omega), far _ 1 0 _ (by omega)]
    exact World.cell?_setCell_same w ⟨b, 0, none⟩ _ h0
  · rw [far _ 3 1 _ (by omega), far _ 2 1 _ (by omega)]
    exact World.cell?_setCell_same _ ⟨b, 1, none⟩ _ ((far _ 0 1 _ (by omega)).trans h1)
  · rw [far _ 3 2 _ (by omega)]
    exact World.cell?_setCell_same _ ⟨b, 2, none⟩ _ ((far _ 1 2 _ (by omega)).trans ((far _ 0 2 _ (by omega)).trans h2))
  · exact World.cell?_setCell_same _ ⟨b, 3, none⟩ _ ((far _ 2 3 _ (by omega)).trans ((far _ 1 3 _ (by omega)).trans ((far _ 0 3 _ (by omega)).trans h3)))
/-- Four numbers in a block. -/
structure QB (w : World) (b : Nat) (t : Edg) : Prop where
  c0 : w.cell? ⟨b, 0, none⟩ = some (.int .i64 t.ax)
  c1 : w.cell? ⟨b, 1, none⟩ = some (.int .i64 t.ay)
  c2 : w.cell? ⟨b, 2, none⟩ = some (.int .i64 t.bx)
  c3 : w.cell? ⟨b, 3, none⟩ = some (.int .i64 t.cy)
  free : ∀ o, w.frozen? ⟨b, o, none⟩ = false
theorem QB.nw {w w' : World} {b : Nat} {t : Edg} (h : QB w b t) (k : Nw w w') : QB w' b t := by
  have hb := World.block_lt_of_cell? w ⟨b, 0, none⟩ h.c0
  have e := fun o => (bcell k).1 b o hb
  exact ⟨(e _).trans h.c0, (e _).trans h.c1, (e _).trans h.c2, (e _).trans h.c3, fun o => ((bcell k).2 _ _ hb).trans (h.free o)⟩
theorem QB.new (w : World) (t : Edg) (ty : TypeId) : QB (w.alloc (.cells #[.int .i64 t.ax, .int .i64 t.ay, .int .i64 t.bx, .int .i64 t.cy] ty)) w.heap.size t :=
  ⟨by simp, by simp, by simp, by simp, fun o => World.frozen?_alloc_at _ _ _ _ rfl⟩
theorem QBnw (w : World) (o : Obj) : Nw w (w.alloc o) := (Below.refl _ _).alloc (Nat.le_refl _) _
theorem QB.lt {w : World} {b : Nat} {t : Edg} (h : QB w b t) : b < w.heap.size := World.block_lt_of_cell? w ⟨b, 0, none⟩ h.c0
end Go.Proofs.Ythlohbiocfeapaa

/-
  Lines out of steps, by the reference: what it keeps beside each step; each theorem names its conditions.
-/
import Derived.Test.YtoajjdlgipphiaaLoI
import Derived.Test.YtoajjdlgipphiaaLnB
namespace Go.Proofs.Ytoajjdlgipphiaa
open Go.ChangeShapes Go.WideShapes Go.ChangeAt Go.RowKit
set_option linter.unusedVariables false

/-- Two ways to keep what has been drawn. -/
def RelS (d : DS) (o : List LD) (p : List Pnt) : Bool → Prop
  | true => d = ⟨endL o p true, [ptAt p 0]⟩
  | false => d = ⟨o, p⟩
def cutS (o : List LD) (p : List Pnt) (cl : Bool) : Bool → DS
  | true => ⟨endL o p cl, [ptAt p 0]⟩
  | false => ⟨o, p⟩
theorem endL_one (o : List LD) (q : Pnt) (c : Bool) : endL o [q] c = o := by unfold endL; rw [if_neg (by simp)]
theorem rel_cut {d : DS} {o : List LD} {p : List Pnt} {cl : Bool} (h : RelS d o p cl) : cutS o p cl (cl || false) = d := by
  cases cl with
  | true => exact h.symm
  | false => exact h.symm
theorem rel_cut1 {d : DS} {o : List LD} {p : List Pnt} {cl : Bool} (h : RelS d o p cl) : (cutS o p cl (cl || true)).o = endL d.o d.p false ∧ (cutS o p cl (cl || true)).p = [ptAt p 0] := by
  cases cl with
  | true =>
    have h : d = ⟨endL o p true, [ptAt p 0]⟩ := h
    rw [h]
    exact ⟨(endL_one _ _ _).symm, rfl⟩
  | false =>
    have h : d = ⟨o, p⟩ := h
    rw [h]
    exact ⟨rfl, rfl⟩
theorem rel_end {d : DS} {o : List LD} {p : List Pnt} {cl : Bool} (h : RelS d o p cl) : endL o p cl = endL d.o d.p false := by
  cases cl with
  | true =>
    have h : d = ⟨endL o p true, [ptAt p 0]⟩ := h
    rw [h]
    exact (endL_one _ _ _).symm
  | false =>
    have h : d = ⟨o, p⟩ := h
    rw [h]
theorem rel_bd {d : DS} {o : List LD} {p : List Pnt} {cl : Bool} {k : Nat} (h : RelS d o p cl) (h1 : manyL d.o + d.p.length ≤ 9 * k) (h3 : d.o.length ≤ k) : p.length ≤ 9 * k + 1 ∧ o.length ≤ k := by
  cases cl with
  | true =>
    have h : d = ⟨endL o p true, [ptAt p 0]⟩ := h
    rw [h] at h1 h3
    unfold endL at h1 h3
    by_cases hp : 1 < p.length
    · rw [if_pos hp] at h1 h3
      rw [manyL_app] at h1
      simp [manyL] at h1 h3
      omega
    · rw [if_neg hp] at h1 h3
      simp at h3
      omega
  | false =>
    have h : d = ⟨o, p⟩ := h
    rw [h] at h1 h3
    simp at h1 h3
    omega
/-- A line in a variable, and the lines that are there. -/
structure LW (bx : Nat) (w : World) (v : Value) (it : Its) (u : Value) (p : List Pnt) (cl : Bool) : Prop where
  b : LnB bx w u p cl
  d : D2 w (bx + 1) v it u p
section
variable {bx : Nat} {w w' : World} {v u : Value} {it : Its} {p : List Pnt} {cl : Bool}
theorem LW.lt (h : LW bx w v it u p cl) : bx < w.heap.size := h.b.lt
theorem LW.nw (h : LW bx w v it u p cl) (k : Nw w w') : LW bx w' v it u p cl := ⟨h.b.nw k, h.d.nw k⟩
theorem LW.new (w : World) (t : TypeId) : LW w.heap.size (w.alloc (.cells #[.slice none 0 0, .bool false] t)) (.slice none 0 0) [] (.slice none 0 0) [] false := ⟨LnB.new w t false, D2.nil _ _⟩
theorem LW.nev (h : LW bx w v it u p cl) : v.ownBlock ≠ some bx := fun e => by have := (OwnQ.lt h.d.ln.own bx e).1; omega
theorem LW.pput {u' : Value} {p' : List Pnt} (h : LW bx w v it u p cl) (x : Ext u u' w w') (ho : OwnP w' (bx + 1) u' p') : LW bx (w'.setCell ⟨bx, 0, none⟩ u') v it u' p' cl ∧ Below bx w (w'.setCell ⟨bx, 0, none⟩ u') :=
  ⟨⟨(LnB.put h.b x ho).1, (h.d.pput x ho).far bx 0 u' (by omega)⟩, (LnB.put h.b x ho).2⟩
theorem LW.flag (h : LW bx w v it u p cl) (c : Bool) : LW bx (w.setCell ⟨bx, 1, none⟩ (.bool c)) v it u p c ∧ Below bx w (w.setCell ⟨bx, 1, none⟩ (.bool c)) := by
  refine ⟨⟨⟨?_, World.cell?_setCell_same w ⟨bx, 1, none⟩ _ h.b.c1, fun o => by rw [World.frozen?_setCell]; exact h.b.free o, OwnQ.far h.b.own bx 1 _ h.b.ne⟩, h.d.far bx 1 _ (by omega)⟩, (Below.refl bx w).setCell (p := ⟨bx, 1, none⟩) (Nat.le_refl _) _⟩
  rw [World.cell?_setCell_other _ _ _ _ (fun e => by injection e; omega)]; exact h.b.c0
/-- The only point is written over. -/
theorem LW.first {g c : Nat} {q : Pnt} (h : LW bx w v it (.slice (some ⟨g, 0, none⟩) 1 c) [q] cl) (x y : Int) : LW bx ((w.setCell ⟨g, 0, none⟩ (.int .i64 x)).setCell ⟨g, 1, none⟩ (.int .i64 y)) v it (.slice (some ⟨g, 0, none⟩) 1 c) [(x, y)] cl ∧ Below bx w ((w.setCell ⟨g, 0, none⟩ (.int .i64 x)).setCell ⟨g, 1, none⟩ (.int .i64 y)) := by
  have ho : w.ownsRow (bx + 1) 54 2 (.slice (some ⟨g, 0, none⟩) 1 c) 1 [.int .i64 q.1, .int .i64 q.2] := h.b.own
  obtain ⟨o1, x1⟩ := World.ownsRow.stored ho 0 (.int .i64 x)
  obtain ⟨o2, x2⟩ := World.ownsRow.stored o1 1 (.int .i64 y)
  have o3 : OwnP ((w.setCell ⟨g, 0, none⟩ (.int .i64 x)).setCell ⟨g, 1, none⟩ (.int .i64 y)) (bx + 1) (.slice (some ⟨g, 0, none⟩) 1 c) [(x, y)] := o2
  have x3 : Ext (.slice (some ⟨g, 0, none⟩) 1 c) (.slice (some ⟨g, 0, none⟩) 1 c) w ((w.setCell ⟨g, 0, none⟩ (.int .i64 x)).setCell ⟨g, 1, none⟩ (.int .i64 y)) := Ext.trans ⟨x1, Or.inl rfl⟩ ⟨x2, Or.inl rfl⟩
  obtain ⟨t0, tf⟩ := h.b.there x3
  exact ⟨⟨⟨t0, (Ext.cell x3 h.lt h.b.ne 1).trans h.b.c1, tf, o3⟩, h.d.pput x3 o3⟩, x3.below (fun g e => Nat.le_of_succ_le (OwnQ.lt h.b.own g e).1) (Nat.le_of_lt h.lt)⟩
end
/-- A new line of one point. -/
theorem LW.cut {bx : Nat} {w : World} {v z z' : Value} {it : Its} (h : OwnLn w (bx + 1) v it) (c0 : w.cell? ⟨bx, 0, none⟩ = some z) (c1 : w.cell? ⟨bx, 1, none⟩ = some z') (hf : ∀ o, w.frozen? ⟨bx, o, none⟩ = false) (x y : Int) :
    LW bx (((w.alloc (.cells #[.int .i64 x, .int .i64 y] 54)).setCell ⟨bx, 0, none⟩ (.slice (some ⟨w.heap.size, 0, none⟩) 1 1)).setCell ⟨bx, 1, none⟩ (.bool false)) v it (.slice (some ⟨w.heap.size, 0, none⟩) 1 1) [(x, y)] false ∧ Below bx w (((w.alloc (.cells #[.int .i64 x, .int .i64 y] 54)).setCell ⟨bx, 0, none⟩ (.slice (some ⟨w.heap.size, 0, none⟩) 1 1)).setCell ⟨bx, 1, none⟩ (.bool false)) := by
  have hb := World.block_lt_of_cell? w ⟨bx, 0, none⟩ c0
  simp only at hb
  have n1 : Nw w (w.alloc (.cells #[.int .i64 x, .int .i64 y] 54)) := (Below.refl _ _).alloc (Nat.le_refl _) _
  have e0 := ((bcell n1).1 bx 0 hb).trans c0
  have e1 := ((bcell n1).1 bx 1 hb).trans c1
  have ho := ownp_lit w (bx + 1) x y (by omega)
  have hne : (Value.slice (some ⟨w.heap.size, 0, none⟩) 1 1).ownBlock ≠ some bx := fun e => by
    have : w.heap.size = bx := by simpa [Value.ownBlock] using e
    omega
  have s1 : ((w.alloc (.cells #[.int .i64 x, .int .i64 y] 54)).setCell ⟨bx, 0, none⟩ (.slice (some ⟨w.heap.size, 0, none⟩) 1 1)).cell? ⟨bx, 1, none⟩ = some z' := by
    rw [World.cell?_setCell_other _ _ _ _ (fun e => by injection e; omega)]; exact e1
  have ho2 := OwnQ.far (OwnQ.far ho bx 0 (.slice (some ⟨w.heap.size, 0, none⟩) 1 1) hne) bx 1 (.bool false) hne
  refine ⟨⟨⟨?_, World.cell?_setCell_same _ ⟨bx, 1, none⟩ _ s1, fun o => ?_, ho2⟩, ⟨((h.nw n1).farSet bx 0 _ (by omega)).farSet bx 1 _ (by omega), ho2, fun b e => ?_⟩⟩, ((Below.mono n1 (Nat.le_of_lt hb)).setCell (Nat.le_refl _) _).setCell (Nat.le_refl _) _⟩
  · rw [World.cell?_setCell_other _ _ _ _ (fun e => by injection e; omega)]
    exact World.cell?_setCell_same _ ⟨bx, 0, none⟩ _ e0
  · rw [World.frozen?_setCell, World.frozen?_setCell]; exact ((bcell n1).2 bx o hb).trans (hf o)
  · have : w.heap.size = b := by simpa [Value.ownBlock] using e
    exact ⟨fun e3 => by have := (OwnQ.lt h.own b e3).2; omega, fun i hi e3 => by have := (OwnQ.lt (h.pts i hi) b e3).2; omega⟩
/-- Two cells of a variable. -/
def Bs (b : Nat) (x y : Value) (w : World) : Prop := w.cell? ⟨b, 0, none⟩ = some x ∧ w.cell? ⟨b, 1, none⟩ = some y
theorem Bs.nw {b : Nat} {x y : Value} {w w' : World} (h : Bs b x y w) (k : Nw w w') : Bs b x y w' := by
  have hb := World.block_lt_of_cell? w ⟨b, 0, none⟩ h.1
  exact ⟨((bcell k).1 b 0 hb).trans h.1, ((bcell k).1 b 1 hb).trans h.2⟩
theorem Bs.new (w : World) (x y : Value) (t : TypeId) : Bs w.heap.size x y (w.alloc (.cells #[x, y] t)) :=
  ⟨by rw [World.cell?_alloc_at _ _ _ _ rfl]; rfl, by rw [World.cell?_alloc_at _ _ _ _ rfl]; rfl⟩
theorem Bs.lt {b : Nat} {x y : Value} {w : World} (h : Bs b x y w) : b < w.heap.size := World.block_lt_of_cell? w ⟨b, 0, none⟩ h.1
theorem Bs.ext {b : Nat} {x y v v' : Value} {w w' : World} (h : Bs b x y w) (k : Ext v v' w w') (hne : v.ownBlock ≠ some b) : Bs b x y w' :=
  ⟨(Ext.cell k h.lt hne 0).trans h.1, (Ext.cell k h.lt hne 1).trans h.2⟩
theorem Bs.set {b c o : Nat} {x y z : Value} {w : World} (h : Bs b x y w) (hne : c ≠ b) : Bs b x y (w.setCell ⟨c, o, none⟩ z) :=
  ⟨by rw [World.cell?_setCell_other _ _ _ _ (fun e => by injection e; omega)]; exact h.1, by rw [World.cell?_setCell_other _ _ _ _ (fun e => by injection e; omega)]; exact h.2⟩
end Go.Proofs.Ytoajjdlgipphiaa

/-
  The statement of the draw of a part that draws its order; each theorem names its conditions.
  The specification's draw of a part; each theorem names its conditions.
  The specification's draw of a selector; each theorem names its conditions.
  Texts without the blanks around them, of both; each theorem names its conditions.
-/
import Derived.Test.YtnkmdmmlpidcmaaGreatDoorJAO
import Derived.Test.YtnkmdmmlpidcmaaGreatDoorJAH
import Derived.Test.YtnkmdmmlpidcmaaGreatDoorJAN
import Derived.Test.YtnkmdmmlpidcmaaGreatDoorJAA
import Derived.Test.YtnkmdmmlpidcmaaGreatDoorJAI
import Derived.Shelf.Strings.SlTrimAscii
namespace Go.Proofs.YtnkmdmmlpidcmaaGreatDoor
open Go.ChangeShapes Go.WideShapes Go.ChangeAt Go.RowKit
set_option linter.unusedVariables false

structure DA where
 B : Nat
 P : Nat
 ca : Option Addr
 len : Nat
 cap : Nat
 n : Nat
 v : Value
 l : List ByteArray
 W : World
 a0 : Act
structure DAOk (X : DA) : Prop where
 hB : X.B < X.P
 own : Txs X.W (X.P + 1) X.v X.l
 hl : X.l.length ≤ 1000000
 hP : X.P + 1 ≤ X.W.heap.size
 c2 : X.W.cell? ⟨X.P, 2, none⟩ = some X.v
 fz : ∀ o, X.W.frozen? ⟨X.P, o, none⟩ = false
 ne : X.v.ownBlock ≠ some X.P
 code : ∀ w, Gr X.B X.W w → Code w X.B X.ca X.len
 hlen : X.len ≤ 9223372036854775807
 hn : X.n ≤ 100000000
 e0 : X.a0.eval (.tmp 0) = .pointer (some ⟨X.B, 0, none⟩)
 e3 : X.a0.eval (.tmp 3) = .pointer (some ⟨X.P, 0, none⟩)
 sz : X.a0.tmps.size = 53
def DA.val0 (X : DA) : Nat → Value
 | 0 => .pointer (some ⟨X.B, 0, none⟩)
 | 3 => .pointer (some ⟨X.P, 0, none⟩)
 | 24 => .pointer (some ⟨X.P, 2, none⟩)
 | 25 => X.v
 | 26 => .pointer (some ⟨X.B, 0, none⟩)
 | 31 => .pointer (some ⟨X.P, 2, none⟩)
 | _ => undef
def DA.av : Nat → Option Nat
 | 27 => some 0
 | 28 => some 1
 | 29 => some 2
 | 30 => some 3
 | _ => none
def DA.acts : List Nat := [3, 4, 5, 6, 8]
/-- The world, by how many of the acting ones have come up. -/
def DA.Wd (X : DA) : Nat → (Nat → Value) → World → Prop
  | 0, _, w => Gr X.B X.W w ∧ Cur w X.B X.ca X.len X.cap (X.n)
  | 1, γ, w => ∃ L, γ 0 = .slice (some ⟨L, 0, none⟩) 3 3 ∧ L ≠ X.B ∧ Txts w L [⟨#[107]⟩, ⟨#[114, 101, 100]⟩, ⟨#[120, 45, 121]⟩] ∧ Gr X.B X.W w ∧ Cur w X.B X.ca X.len X.cap (X.n)
  | 2, γ, w => ∃ x : ByteArray, γ 1 = .string x ∧ x.size ≤ 20 ∧ Gr X.B X.W w ∧ Cur w X.B X.ca X.len X.cap (X.n + 2)
  | 3, γ, w => ∃ (x : ByteArray) (g : Nat), γ 2 = .slice (some ⟨g, 0, none⟩) 1 1 ∧ w.cell? ⟨g, 0, none⟩ = some (.string x) ∧ x.size ≤ 20 ∧ Gr X.B X.W w ∧ Cur w X.B X.ca X.len X.cap (X.n + 2)
  | 4, γ, w => ∃ (x : ByteArray) (w1 : World), x.size ≤ 20 ∧ Txs w (X.P + 1) (γ 3) (X.l ++ [x]) ∧ Ext X.v (γ 3) w1 w ∧ Gr X.B X.W w1 ∧ Cur w1 X.B X.ca X.len X.cap (X.n + 2)
  | _, γ, w => ∃ (x : ByteArray) (w1 w2 : World), x.size ≤ 20 ∧ Txs w2 (X.P + 1) (γ 3) (X.l ++ [x]) ∧ Ext X.v (γ 3) w1 w2 ∧ Gr X.B X.W w1 ∧ Cur w1 X.B X.ca X.len X.cap (X.n + 2) ∧ w = w2.setCell ⟨X.P, 2, none⟩ (γ 3)
theorem DA.gr {X : DA} : ∀ {n : Nat} {γ : Nat → Value} {w : World}, X.Wd n γ w → n ≤ 3 → Gr X.B X.W w
  | 0, _, _, h, _ => h.1
  | 1, _, _, ⟨_, _, _, _, h, _⟩, _ => h
  | 2, _, _, ⟨_, _, _, h, _⟩, _ => h
  | 3, _, _, ⟨_, _, _, _, _, h, _⟩, _ => h
  | _ + 4, _, _, _, h => absurd h (by omega)
theorem DA.chain : chainG (opsOf 9 Tryz.f73) DA.acts = true := by kernel_rfl
theorem DA.nodup : DA.acts.Nodup := by decide
def DA.L : List (Option Nat × Op × Option (Nat × Bool)) := [
 (some 24, .fieldAddr 67 (.tmp 3) 2, none),
 (some 25, .load 65 (.tmp 24), none),
 (some 26, .move (.tmp 0), none),
 (some 27, .buildSlice 65 3 #[(0, (.const (.string ⟨#[107]⟩))), (1, (.const (.string ⟨#[114, 101, 100]⟩))), (2, (.const (.string ⟨#[120, 45, 121]⟩)))], none),
 (some 28, .call { callee := .value (.func 36), args := #[(.tmp 26), (.tmp 27)], argTypes := #[53, 65] }, none),
 (some 29, .buildSlice 65 1 #[(0, (.tmp 28))], none),
 (some 30, .call { callee := .builtin .append, args := #[(.tmp 25), (.tmp 29)], argTypes := #[65, 65] }, none),
 (some 31, .fieldAddr 67 (.tmp 3) 2, none),
 (none, .store 65 (.tmp 31) (.tmp 30), none)]
theorem DA.isL : (opsOf 9 Tryz.f73).toList.map tri = DA.L := by kernel_rfl
theorem DA.ini {X : DA} (ok : DAOk X) : ∀ n ∈ [0, 3], X.a0.eval (.tmp n) = X.val0 n := by
 simp only [List.forall_mem_cons]
 exact ⟨ok.e0, ok.e3, List.forall_mem_nil _⟩
abbrev DA.St (X : DA) (Q : Exit → Act → World → Prop) (i : Nat) : Prop := StepG (opsOf 9 Tryz.f73) DA.acts DA.av X.val0 X.Wd X.a0 Q i
theorem DA.plain (X : DA) (ok : DAOk X) {Q : Exit → Act → World → Prop} : ∀ i ∈ [0, 2, 7], DA.St X Q i := by
 simp only [List.forall_mem_cons]
 refine ⟨?_, ?_, ?_, List.forall_mem_nil _⟩
 all_goals
  refine st_plain DA.isL (DA.ini ok) ok.sz rfl (by kernel_rfl) ?_
  intro γ w n o hW hop
  unfold execOp
  rw [hop]
  simp [envR, valG, DA.av, DA.val0, go_sem]
theorem DA.s1 (X : DA) (ok : DAOk X) {Q : Exit → Act → World → Prop} : DA.St X Q 1 := by
 intro γ listed a w o hF hC hW h1 ho h2
 obtain ⟨hd, hop, hg⟩ := fieldsL DA.isL (i := 1) rfl ho
 have e24 : a.eval (.tmp 24) = .pointer (some ⟨X.P, 2, none⟩) := known hF ho h2 (DA.ini ok) ok.sz (by kernel_rfl)
 have hph := phase_leG (acts := DA.acts) (m := 3) (x := 6) hC (unl (hF.lt ho) h1) rfl [1] (by kernel_rfl) (by decide)
 have hWW := hW
 generalize phase listed DA.acts = n at hph hWW
 have hk := DA.gr hWW hph
 have h0 : w.cell? ⟨X.P, 2, none⟩ = some X.v := (hk.cell (by have := ok.hP; omega) (by have := ok.hB; omega) 2).trans ok.c2
 refine st_pureG hF hC hW ho h2 (by decide) hd hg rfl ?_
 show _ = Result.ok (Next.value (X.v)) w
 generalize a.eval = ρ at e24 ⊢
 unfold execOp
 rw [hop]
 simp [e24, h0, go_sem]
theorem DA.s3 (X : DA) (ok : DAOk X) {Q : Exit → Act → World → Prop} : DA.St X Q 3 := by
 intro γ listed a w o hF hC hW h1 ho h2
 obtain ⟨hd, hop, hg⟩ := fieldsL DA.isL (i := 3) rfl ho
 have ec0 : a.eval (.const (.string ⟨#[107]⟩)) = .string ⟨#[107]⟩ := rfl
 have ec1 : a.eval (.const (.string ⟨#[114, 101, 100]⟩)) = .string ⟨#[114, 101, 100]⟩ := rfl
 have ec2 : a.eval (.const (.string ⟨#[120, 45, 121]⟩)) = .string ⟨#[120, 45, 121]⟩ := rfl
 have hu := unl (hF.lt ho) h1
 refine st_actG (k := 0) DA.chain DA.nodup rfl hF hC hW h1 ho h2 (Or.inr ⟨27, hd, rfl⟩) (injG (by kernel_rfl) hu) hg ?_
 intro hW0 K hK
 have hr : (execOp a.eval o).run Tryz.prog w = .ok (.value (.slice (some ⟨w.heap.size, 0, none⟩) 3 3)) (w.alloc (.cells #[.string ⟨#[107]⟩, .string ⟨#[114, 101, 100]⟩, .string ⟨#[120, 45, 121]⟩] 9)) := by
  generalize a.eval = ρ at ec0 ec1 ec2 ⊢
  unfold execOp
  rw [hop]
  simp [ec0, ec1, ec2, go_sem]
 unfold Oper.wp
 rw [hr]
 obtain ⟨hg1, hc1⟩ := hW0
 exact hK _ _ ⟨w.heap.size, rfl, by have := hg1.size; have := ok.hP; have := ok.hB; omega, txts_alloc [⟨#[107]⟩, ⟨#[114, 101, 100]⟩, ⟨#[120, 45, 121]⟩] w 9, hg1.alloc _, hc1.alloc _ _⟩
theorem DA.s4 (X : DA) (ok : DAOk X) {Q : Exit → Act → World → Prop} : DA.St X Q 4 := by
 intro γ listed a w o hF hC hW h1 ho h2
 obtain ⟨hd, hop, hg⟩ := fieldsL DA.isL (i := 4) rfl ho
 have e26 : a.eval (.tmp 26) = .pointer (some ⟨X.B, 0, none⟩) := known hF ho h2 (DA.ini ok) ok.sz (by kernel_rfl)
 have e27 : a.eval (.tmp 27) = γ 0 := known hF ho h2 (DA.ini ok) ok.sz (by kernel_rfl)
 have ef : a.eval (.func 36) = .func (.func 36) #[] #[] := rfl
 have hu := unl (hF.lt ho) h1
 refine st_actG (k := 1) DA.chain DA.nodup rfl hF hC hW h1 ho h2 (Or.inr ⟨28, hd, rfl⟩) (injG (by kernel_rfl) hu) hg ?_
 intro hW0 K hK
 obtain ⟨L, g0, hne, ht, hg1, hc1⟩ := hW0
 rw [g0] at e27
 have hr : (execOp a.eval o).run Tryz.prog w = .ok (.enter 36 #[.pointer (some ⟨X.B, 0, none⟩), .slice (some ⟨L, 0, none⟩) 3 3]) w := by
  generalize a.eval = ρ at e26 e27 ef ⊢
  unfold execOp
  rw [hop]
  simp [e26, e27, ef, go_sem]
 unfold Oper.wp
 rw [hr]
 refine Calls.mono (of_any w X.B L 3 [⟨#[107]⟩, ⟨#[114, 101, 100]⟩, ⟨#[120, 45, 121]⟩] rfl X.ca X.len X.cap X.n ok.hlen (by have := ok.hn; omega) (by omega) (by omega) hne ht hc1 (ok.code _ hg1)) ?_
 rintro e w' ⟨x, rfl, hx, hc2, hs⟩
 exact hK _ _ ⟨x, rfl, (by decide : ∀ x ∈ ([⟨#[107]⟩, ⟨#[114, 101, 100]⟩, ⟨#[120, 45, 121]⟩] : List ByteArray), x.size ≤ 20) x hx, hg1.trans (Gr.of_sel hs), hc2⟩
theorem DA.s5 (X : DA) (ok : DAOk X) {Q : Exit → Act → World → Prop} : DA.St X Q 5 := by
 intro γ listed a w o hF hC hW h1 ho h2
 obtain ⟨hd, hop, hg⟩ := fieldsL DA.isL (i := 5) rfl ho
 have e28 : a.eval (.tmp 28) = γ 1 := known hF ho h2 (DA.ini ok) ok.sz (by kernel_rfl)
 have hu := unl (hF.lt ho) h1
 refine st_actG (k := 2) DA.chain DA.nodup rfl hF hC hW h1 ho h2 (Or.inr ⟨29, hd, rfl⟩) (injG (by kernel_rfl) hu) hg ?_
 intro hW0 K hK
 obtain ⟨x, g0, hx, hg1, hc1⟩ := hW0
 rw [g0] at e28
 have hr : (execOp a.eval o).run Tryz.prog w = .ok (.value (.slice (some ⟨w.heap.size, 0, none⟩) 1 1)) (w.alloc (.cells #[.string x] 9)) := by
  generalize a.eval = ρ at e28 ⊢
  unfold execOp
  rw [hop]
  simp [e28, go_sem]
 unfold Oper.wp
 rw [hr]
 exact hK _ _ ⟨x, w.heap.size, rfl, by simp, hx, hg1.alloc _, hc1.alloc _ _⟩
theorem DA.s6 (X : DA) (ok : DAOk X) {Q : Exit → Act → World → Prop} : DA.St X Q 6 := by
 intro γ listed a w o hF hC hW h1 ho h2
 obtain ⟨hd, hop, hg⟩ := fieldsL DA.isL (i := 6) rfl ho
 have e25 : a.eval (.tmp 25) = X.v := known hF ho h2 (DA.ini ok) ok.sz (by kernel_rfl)
 have e29 : a.eval (.tmp 29) = γ 2 := known hF ho h2 (DA.ini ok) ok.sz (by kernel_rfl)
 have hu := unl (hF.lt ho) h1
 refine st_actG (k := 3) DA.chain DA.nodup rfl hF hC hW h1 ho h2 (Or.inr ⟨30, hd, rfl⟩) (injG (by kernel_rfl) hu) hg ?_
 intro hW0 K hK
 obtain ⟨x, g, g2, hcell, hx, hg1, hc1⟩ := hW0
 rw [g2] at e29
 have hz := hg1.size
 obtain ⟨v', w', hr, h3, h4⟩ := run_tx w (.tmp 25) (.tmp 29) hop (X.P + 1) X.v X.l x e25 (ok.own.gr hg1 (by have := ok.hB; omega)) g e29 hcell (by have := ok.hl; omega) (by have := ok.hP; omega)
 unfold Oper.wp
 rw [hr]
 exact hK _ _ ⟨x, w, hx, h3, h4, hg1, hc1⟩
theorem DA.s8 (X : DA) (ok : DAOk X) {Q : Exit → Act → World → Prop} : DA.St X Q 8 := by
 intro γ listed a w o hF hC hW h1 ho h2
 obtain ⟨hd, hop, hg⟩ := fieldsL DA.isL (i := 8) rfl ho
 have e31 : a.eval (.tmp 31) = .pointer (some ⟨X.P, 2, none⟩) := known hF ho h2 (DA.ini ok) ok.sz (by kernel_rfl)
 have e30 : a.eval (.tmp 30) = γ 3 := known hF ho h2 (DA.ini ok) ok.sz (by kernel_rfl)
 have hu := unl (hF.lt ho) h1
 refine st_actG (k := 4) DA.chain DA.nodup rfl hF hC hW h1 ho h2 (Or.inl hd) (injG (by kernel_rfl) hu) hg ?_
 intro hW0 K hK
 obtain ⟨x, w1, hx, h3, h4, hg1, hc1⟩ := hW0
 have hlt : X.P < X.W.heap.size := by have := ok.hP; omega
 have hlt1 : X.P < w1.heap.size := Nat.lt_of_lt_of_le hlt hg1.size
 have z0 : w.cell? ⟨X.P, 2, none⟩ = some X.v := (Ext.cell h4 hlt1 ok.ne 2).trans ((hg1.cell hlt (by have := ok.hB; omega) 2).trans ok.c2)
 have zf : w.frozen? ⟨X.P, 2, none⟩ = false := (World.frozen?_of_block (a := ⟨X.P, 2, none⟩) (h4.1.block X.P hlt1 (fun e => ok.ne e.symm))).trans ((hg1.frozen hlt (by have := ok.hB; omega) 2).trans (ok.fz 2))
 obtain ⟨va, vc, hv⟩ := h3.slice
 rw [hv] at e30
 have hr : (execOp a.eval o).run Tryz.prog w = .ok .skip (w.setCell ⟨X.P, 2, none⟩ (.slice va (X.l ++ [x]).length vc)) := by
  generalize a.eval = ρ at e31 e30 ⊢
  unfold execOp
  rw [hop]
  simp [e31, e30, z0, zf, go_sem]
 unfold Oper.wp
 rw [hr]
 exact hK _ _ ⟨x, w1, w, hx, h3, h4, hg1, hc1, by show w.setCell _ _ = w.setCell _ (γ 3); rw [hv]⟩
theorem DA.size : (opsOf 9 Tryz.f73).size = 9 := by kernel_rfl
theorem DA.rest (X : DA) (ok : DAOk X) {Q : Exit → Act → World → Prop} : ∀ i ∈ [1, 3, 4, 5, 6, 8], DA.St X Q i := by
 simp only [List.forall_mem_cons]
 exact ⟨DA.s1 X ok,
  DA.s3 X ok,
  DA.s4 X ok,
  DA.s5 X ok,
  DA.s6 X ok,
  DA.s8 X ok, List.forall_mem_nil _⟩
theorem DA.steps (X : DA) (ok : DAOk X) {Q : Exit → Act → World → Prop} (i : Nat) (hi : i < (opsOf 9 Tryz.f73).size) : DA.St X Q i := by
 rw [DA.size] at hi
 rcases (by decide : ∀ i, i < 9 → i ∈ [0, 2, 7] ∨ i ∈ [1, 3, 4, 5, 6, 8]) i hi with h | h
 · exact DA.plain X ok i h
 · exact DA.rest X ok i h
/-- The region, whatever order comes up. -/
theorem DA.run (X : DA) (ok : DAOk X) {Q : Exit → Act → World → Prop} (w : World) (h0 : X.Wd 0 (fun _ => undef) w.drew) (hend : ∀ (γ : Nat → Value) w', X.Wd 5 γ w' → Q .normal ((((((((X.a0.put (some 24) (.pointer (some ⟨X.P, 2, none⟩))).put (some 25) (X.v)).put (some 26) (.pointer (some ⟨X.B, 0, none⟩))).put (some 27) (γ 0)).put (some 28) (γ 1)).put (some 29) (γ 2)).put (some 30) (γ 3)).put (some 31) (.pointer (some ⟨X.P, 2, none⟩))) w') : (Code.region 9 (opsOf 9 Tryz.f73) true).wp Tryz.prog Q X.a0 w := by
 refine reg_act (acts := DA.acts) (av := DA.av) (val0 := X.val0) (Wd := X.Wd) (by kernel_rfl) (by kernel_rfl) (by rw [DA.size]; decide) (fun i hi => DA.steps X ok i hi) _ h0 ?_
 intro γ w' h
 exact end_at (hend γ w' h) (by kernel_rfl)
end Go.Proofs.YtnkmdmmlpidcmaaGreatDoor
namespace Go.Proofs.YtnkmdmmlpidcmaaGreatDoor
open Go.ChangeShapes Go.WideShapes Go.ChangeAt Go.RowKit
set_option linter.unusedVariables false

def PartDrawn (w w' : World) (e : Ending) : Prop := ∃ (p : PD) (u : Value), e = .returned (.agg #[.string p.ty, .string p.id, u]) ∧ RowM 1 EStr w' u p.cls (iv w w') ∧ bulkP p ≤ 200
set_option maxRecDepth 100000 in
set_option maxHeartbeats 8000000 in
theorem partOf_any (w : World) (B : Nat) (ca : Option Addr) (len cap n : Nat) (hl : len ≤ 9223372036854775807) (hn : n ≤ 10000000) (hc : Cur w B ca len cap n) (hd : Code w B ca len) :
    Calls Tryz.prog 73 #[.pointer (some ⟨B, 0, none⟩)] w fun e w' => PartDrawn w w' e ∧ Cur w' B ca len cap (n + 20) ∧ Gr B w w' := by
  have hB := hc.lt
  have HB : Hid (B < w.heap.size) := hB
  have HP0 : Hid (PG B w _ ⟨#[]⟩ ⟨#[]⟩ (.slice none 0 0) []) := PG.new w 67
  have HC0 : Hid (Cur ((w.alloc (.cells #[.string ⟨#[]⟩, .string ⟨#[]⟩, .slice none 0 0] 67)).alloc (.cells #[.string ⟨#[]⟩, .string ⟨#[]⟩, .slice none 0 0] 67)) B ca len cap n) := (hc.alloc _ _).alloc _ _
  have DC : Hid (∀ w', Gr B w w' → Code w' B ca len) := fun w' h => Code.below hd (h.below (by omega))
  clear hc hd hB
  go_enter Tryz.func73, Tryz.ntmps73
  go_wp2_with fail
  refine (one_any _ B ca len cap n 2 hl (by omega) (by omega) (by omega) HC0.out (DC.out _ HP0.out.g)).mono ?_
  rintro e w1 ⟨b1, rfl, hc1, hb1⟩
  have P1 : Hid (PG B w w1 ⟨#[]⟩ ⟨#[]⟩ (.slice none 0 0) []) := HP0.out.go (Gr.of_sel hb1) HB.out
  have C1 : Hid (Cur w1 B ca len cap (n + 2)) := hc1
  clear hc1 hb1 HP0 HC0
  go_upto_if 7 with fail
  go_cut [] (fun wx => ∃ ty : ByteArray, ty.size ≤ 20 ∧ PG B w wx ty ⟨#[]⟩ (.slice none 0 0) [] ∧ Cur wx B ca len cap (n + 4))
  case first =>
    cases b1 with
    | true =>
      go_wp2_with fail
      refine (of_lit w1 B 20 [⟨#[103]⟩, ⟨#[114, 101, 99, 116]⟩, ⟨#[42]⟩, ⟨#[99, 105, 114, 99, 108, 101]⟩, ⟨#[115, 118, 103]⟩] (by decide) 9 ca len cap (n + 2) hl (by omega) (by decide) (by decide) C1.out (DC.out _ P1.out.g)).mono ?_
      rintro e w2 ⟨ty, rfl, hty, hc2, hg2⟩
      have P2 : Hid (PG B w w2 ⟨#[]⟩ ⟨#[]⟩ (.slice none 0 0) []) := P1.out.go hg2 HB.out
      have C2 : Hid (Cur w2 B ca len cap (n + 2 + 2)) := hc2
      clear hc2 hg2
      obtain ⟨⟨y0, y1, y2, yf, _⟩, _, _⟩ := P2.out
      go_wp2
      go_meet
      exact ⟨ty, hty, P2.out.ty ty, C2.out.set (by have := HB.out; omega) _ _⟩
    | false =>
      go_wp2
      go_meet
      exact ⟨⟨#[]⟩, by decide, P1.out, C1.out.mono (by omega)⟩
  case rest =>
    obtain ⟨ty, hty, hp, hc⟩ := hcut
    have P2 : Hid (PG B w wc ty ⟨#[]⟩ (.slice none 0 0) []) := hp
    have C2 : Hid (Cur wc B ca len cap (n + 4)) := hc
    clear hp hc P1 C1
    go_wp2_with fail
    refine (one_any _ B ca len cap (n + 4) 4 hl (by omega) (by omega) (by omega) C2.out (DC.out _ P2.out.g)).mono ?_
    rintro e w3 ⟨b3, rfl, hc3, hb3⟩
    have P3 : Hid (PG B w w3 ty ⟨#[]⟩ (.slice none 0 0) []) := P2.out.go (Gr.of_sel hb3) HB.out
    have C3 : Hid (Cur w3 B ca len cap (n + 4 + 2)) := hc3
    clear hc3 hb3 P2 C2
    go_upto_if 13 with fail
    go_cut [] (fun wx => ∃ id : ByteArray, id.size ≤ 20 ∧ PG B w wx ty id (.slice none 0 0) [] ∧ Cur wx B ca len cap (n + 8))
    case first =>
      cases b3 with
      | true =>
        go_wp2_with fail
        refine (of_lit w3 B 20 [⟨#[97]⟩, ⟨#[98, 49]⟩] (by decide) 9 ca len cap (n + 4 + 2) hl (by omega) (by decide) (by decide) C3.out (DC.out _ P3.out.g)).mono ?_
        rintro e w4 ⟨id, rfl, hid, hc4, hg4⟩
        have P4 : Hid (PG B w w4 ty ⟨#[]⟩ (.slice none 0 0) []) := P3.out.go hg4 HB.out
        have C4 : Hid (Cur w4 B ca len cap (n + 4 + 2 + 2)) := hc4
        clear hc4 hg4
        obtain ⟨⟨y0, y1, y2, yf, _⟩, _, _⟩ := P4.out
        go_wp2
        go_meet
        exact ⟨id, hid, P4.out.id id, C4.out.set (by have := HB.out; omega) _ _⟩
      | false =>
        go_wp2
        go_meet
        exact ⟨⟨#[]⟩, by decide, P3.out, C3.out.mono (by omega)⟩
    case rest =>
      obtain ⟨id, hid, hp, hc⟩ := hcut
      have P4 : Hid (PG B w wc ty id (.slice none 0 0) []) := hp
      have C4 : Hid (Cur wc B ca len cap (n + 8)) := hc
      clear hp hc P3 C3
      go_wp2_with fail
      refine (pick_any wc B ca len cap (n + 8) 3 hl (by omega) (by omega) (by omega) C4.out (DC.out _ P4.out.g)).mono ?_
      rintro e w5 ⟨v, rfl, v0, v1, hc5, hb5⟩
      have P5 : Hid (PG B w w5 ty id (.slice none 0 0) []) := P4.out.go (Gr.of_sel hb5) HB.out
      have C5 : Hid (Cur w5 B ca len cap (n + 8 + 2)) := hc5
      clear hc5 hb5 P4 C4
      obtain ⟨m, rfl⟩ := Int.eq_ofNat_of_zero_le v0
      have hm2 : m ≤ 2 := by omega
      clear v0 v1
      go_wp2
      go_loopw [4] (fun i wr => ∃ (k : Nat) (v : Value) (cls : List ByteArray), i = .int .i64 (k : Int) ∧ cls.length + k ≤ 2 ∧ bulk1 cls ≤ 20 * cls.length ∧ PG B w wr ty id v cls ∧ Cur wr B ca len cap (n + 10 + 2 * cls.length)) (fun i _ => (intOf i).toNat)
      case atStart => exact ⟨m, .slice none 0 0, [], rfl, by simpa using hm2, by simp [bulk1], P5.out, C5.out.mono (by omega)⟩
      case round =>
        obtain ⟨k, v, cls, rfl, hk, hbk, hp, hc⟩ := hrel
        have P6 : Hid (PG B w wr ty id v cls) := hp
        have C6 : Hid (Cur wr B ca len cap (n + 10 + 2 * cls.length)) := hc
        clear hp hc
        by_cases hk0 : 0 < k
        · have dk : decide ((0 : Int) < (k : Int)) = true := by simp; omega
          have q2 := P6.out.box.c2
          obtain ⟨k2, hk2⟩ : ∃ k2, k = k2 + 1 := ⟨k - 1, by omega⟩
          subst hk2
          have hsz : w.heap.size + 1 + 1 ≤ wr.heap.size := by have := P6.out.box.lt; omega
          go_wp2_with fail
          refine DA.run ⟨B, w.heap.size + 1, ca, len, cap, n + 10 + 2 * cls.length, v, cls, wr.drew, _⟩ ⟨by have := HB.out; show B < w.heap.size + 1; omega, by exact P6.out.box.own, by show cls.length ≤ _; omega, hsz, q2, by exact P6.out.box.free, P6.out.box.ne, fun w' h => DC.out _ (Gr.trans P6.out.g (Gr.like h rfl rfl rfl rfl)), hl, by show n + 10 + 2 * cls.length ≤ _; omega, rfl, rfl, rfl⟩ wr ⟨Gr.refl _ _, by exact C6.out⟩ ?_
          rintro γ w7 ⟨x, w8, w9, hx, h3, h4, hg1, hc1, rfl⟩
          simp only at hx h3 h4 hg1 hc1
          have P8 : Hid (PG B w w8 ty id v cls) := P6.out.go (Gr.like hg1 rfl rfl rfl rfl) HB.out
          have P9 : Hid (PG B w (w9.setCell ⟨w.heap.size + 1, 2, none⟩ (γ 3)) ty id (γ 3) (cls ++ [x])) := P8.out.put h4 h3
          have C9 : Hid (Cur (w9.setCell ⟨w.heap.size + 1, 2, none⟩ (γ 3)) B ca len cap (n + 10 + 2 * cls.length + 2)) := (hc1.ext h4 (fun e => by have := (World.ownsRow.lt P8.out.box.own _ e).1; have := HB.out; omega)).set (by have := HB.out; omega) _ _
          clear h3 h4 hg1 hc1 q2
          simp only [Act.put, List.setIfInBounds_toArray, List.set_cons_zero, List.set_cons_succ]
          generalize γ 3 = v9 at *
          generalize γ 0 = g0 at *
          generalize γ 1 = g1 at *
          generalize γ 2 = g2 at *
          generalize γ 4 = g4 at *
          go_wp2
          go_roundw
          case rel => exact ⟨k2, v9, cls ++ [x], by go_num, by simp; omega, by rw [bulk1_snoc]; simp; omega, P9.out, C9.out.mono (by simp; omega)⟩
          case measure => simp [intOf]
        · have hk1 : k = 0 := by omega
          subst hk1
          have hcl : cls.length ≤ 2 := by omega
          obtain ⟨va, vc, hv⟩ := P6.out.box.own.slice
          subst hv
          have PQ : Hid (PG B w wr ty id (.slice va cls.length vc) cls) := P6
          clear P6
          go_upto_region 10 with fail
          go_cut [50] (fun b wx => ∃ bb : Bool, b = .bool bb ∧ PG B w wx ty id (.slice va cls.length vc) cls ∧ Cur wx B ca len cap (n + 16))
          case first =>
            have y0 := PQ.out.box.c0
            have y1 := PQ.out.box.c1
            have y2 := PQ.out.box.c2
            by_cases h1 : ty.size = 0
            · obtain rfl := empty_of h1
              clear h1
              by_cases h2 : id.size = 0
              · obtain rfl := empty_of h2
                clear h2
                by_cases h3 : cls.length = 0
                · have h4 : ((cls.length : Int) == 0) = true := by rw [h3]; rfl
                  clear h3
                  go_wp2_with fail
                  refine (one_any wr B ca len cap _ 8 hl (by omega) (by omega) (by omega) C6.out (DC.out _ PQ.out.g)).mono ?_
                  rintro e w7 ⟨b7, rfl, hc7, hb7⟩
                  have P7 : Hid (PG B w w7 ⟨#[]⟩ ⟨#[]⟩ (.slice va cls.length vc) cls) := PQ.out.go (Gr.of_sel hb7) HB.out
                  have C7 : Hid (Cur w7 B ca len cap (n + 10 + 2 * cls.length + 2)) := hc7
                  clear hc7 hb7
                  cases b7 <;> (
                    go_wp2
                    go_meet
                    exact ⟨_, rfl, P7.out, C7.out.mono (by omega)⟩)
                · have h4 : ((cls.length : Int) == 0) = false := beq_eq_false_iff_ne.2 (by omega)
                  clear h3
                  go_wp2_with fail
                  go_meet
                  exact ⟨_, rfl, PQ.out, C6.out.mono (by omega)⟩
              · have n1 := ne_nil (s := id) (by omega)
                have n2 := ne_emp (s := id) (by omega)
                go_wp2_with fail
                go_meet
                exact ⟨_, rfl, PQ.out, C6.out.mono (by omega)⟩
            · have n1 := ne_nil (s := ty) (by omega)
              have n2 := ne_emp (s := ty) (by omega)
              go_wp2_with fail
              go_meet
              exact ⟨_, rfl, PQ.out, C6.out.mono (by omega)⟩
          case rest =>
            obtain ⟨bb, rfl, hp, hc⟩ := hcut
            have PR : Hid (PG B w wc ty id (.slice va cls.length vc) cls) := hp
            have CR : Hid (Cur wc B ca len cap (n + 16)) := hc
            have hRB : w.heap.size ≠ B := by have := HB.out; omega
            have HG3 : Hid (∀ wx (u0 u1 u2 : Value), Gr B w wx → Gr B w (((wx.setCell ⟨w.heap.size, 0, none⟩ u0).setCell ⟨w.heap.size, 1, none⟩ u1).setCell ⟨w.heap.size, 2, none⟩ u2)) := fun wx u0 u1 u2 h => ((h.set (Nat.le_refl _) _ _).set (Nat.le_refl _) _ _).set (Nat.le_refl _) _ _
            clear hp hc PQ C6
            cases bb with
            | true =>
              have PS : Hid (PG B w (wc.setCell ⟨w.heap.size + 1, 0, none⟩ (.string ⟨#[114, 101, 99, 116]⟩)) ⟨#[114, 101, 99, 116]⟩ id (.slice va cls.length vc) cls) := PR.out.ty _
              have CS : Hid (Cur (wc.setCell ⟨w.heap.size + 1, 0, none⟩ (.string ⟨#[114, 101, 99, 116]⟩)) B ca len cap (n + 16)) := CR.out.set (by have := HB.out; omega) _ _
              have x0 := PR.out.box.c0
              have xf := PR.out.box.free
              obtain ⟨⟨b0, b1, b2, bf, _⟩, ⟨z0, z1, z2, zf, _⟩, _⟩ := PS.out
              obtain ⟨y0, y1, y2⟩ := set3c _ w.heap.size (.string ⟨#[114, 101, 99, 116]⟩) (.string id) (.slice va cls.length vc) z0 z1 z2
              go_wp2
              refine bodyPost_ret (v := .agg #[.string ⟨#[114, 101, 99, 116]⟩, .string id, .slice va cls.length vc]) (by simp [results, Tryz.results73, go_sem, y0, y1, y2]) rfl ⟨⟨⟨⟨#[114, 101, 99, 116]⟩, id, cls⟩, _, rfl, PS.out.done _ _ _, ?_⟩, ?_, HG3.out _ _ _ _ PS.out.g⟩
              · unfold bulkP
                simp only
                have : (⟨#[114, 101, 99, 116]⟩ : ByteArray).size = 4 := rfl
                omega
              · exact Cur.mono (((CS.out.set hRB _ _).set hRB _ _).set hRB _ _) (by omega)
            | false =>
              obtain ⟨⟨b0, b1, b2, bf, _⟩, ⟨z0, z1, z2, zf, _⟩, _⟩ := PR.out
              obtain ⟨y0, y1, y2⟩ := set3c _ w.heap.size (.string ty) (.string id) (.slice va cls.length vc) z0 z1 z2
              go_wp2
              refine bodyPost_ret (v := .agg #[.string ty, .string id, .slice va cls.length vc]) (by simp [results, Tryz.results73, go_sem, y0, y1, y2]) rfl ⟨⟨⟨ty, id, cls⟩, _, rfl, PR.out.done _ _ _, ?_⟩, ?_, HG3.out _ _ _ _ PR.out.g⟩
              · unfold bulkP
                simp only
                omega
              · exact Cur.mono (((CR.out.set hRB _ _).set hRB _ _).set hRB _ _) (by omega)
end Go.Proofs.YtnkmdmmlpidcmaaGreatDoor
namespace Go.Proofs.YtnkmdmmlpidcmaaGreatDoor
open Go.ChangeShapes Go.WideShapes Go.ChangeAt Go.RowKit
set_option linter.unusedVariables false

theorem bulkPs_snoc (l : List PD) (x : PD) : bulkPs (l ++ [x]) = bulkPs l + bulkP x := by simp [bulkPs]
theorem map_snoc {α : Type} (l : List (El α)) (e : El α) : (l ++ [e]).map El.x = l.map El.x ++ [e.x] := by simp
def SelOwn (m : Nat) (w w' : World) (e : Ending) : Prop := ∃ (els : List (El PD)) (u : Value), e = .returned u ∧ RowO 67 3 EPart w' w.heap.size u els ∧ els.length ≤ m ∧ bulkPs (els.map El.x) ≤ 200 * els.length
def SelDrawn (m : Nat) (w w' : World) (e : Ending) : Prop := ∃ (l : List PD) (u : Value), e = .returned u ∧ RowM 3 EPart w' u l (iv w w') ∧ l.length ≤ m ∧ bulkPs l ≤ 200 * l.length
set_option maxRecDepth 100000 in
set_option maxHeartbeats 8000000 in
theorem selector_own (w : World) (B : Nat) (ca : Option Addr) (len cap n : Nat) (hl : len ≤ 9223372036854775807) (hn : n ≤ 1000000) (hc : Cur w B ca len cap n) (hd : Code w B ca len) :
    Calls Tryz.prog 34 #[.pointer (some ⟨B, 0, none⟩)] w fun e w' => SelOwn 6 w w' e ∧ Cur w' B ca len cap (n + 126) ∧ Gr B w w' := by
  have hB := hc.lt
  have HB : Hid (B < w.heap.size) := hB
  have HC0 : Hid (Cur w B ca len cap n) := hc
  have DC : Hid (∀ w', Gr B w w' → Code w' B ca len) := fun w' h => Code.below hd (h.below (by omega))
  clear hc hd hB
  go_enter Tryz.func34, Tryz.ntmps34
  go_wp2_with fail
  refine (pick_any w B ca len cap n 3 hl (by omega) (by omega) (by omega) HC0.out (DC.out _ (Gr.refl _ _))).mono ?_
  rintro e w1 ⟨v, rfl, v0, v1, hc1, hb1⟩
  have G1 : Hid (Gr B w w1) := Gr.of_sel hb1
  have C1 : Hid (Cur w1 B ca len cap (n + 2)) := hc1
  obtain ⟨m, rfl⟩ := Int.eq_ofNat_of_zero_le v0
  have hm2 : m ≤ 2 := by omega
  clear hc1 hb1 v0 v1 HC0
  go_wp2_with fail
  refine (one_any w1 B ca len cap (n + 2) 30 hl (by omega) (by omega) (by omega) C1.out (DC.out _ G1.out)).mono ?_
  rintro e w2 ⟨bb, rfl, hc2, hb2⟩
  have G2 : Hid (Gr B w w2) := Gr.trans G1.out (Gr.of_sel hb2)
  have C2 : Hid (Cur w2 B ca len cap (n + 2 + 2)) := hc2
  clear hc2 hb2 G1 C1
  go_upto_if 9 with fail
  go_cut [4] (fun i wx => ∃ q : Nat, i = .int .i64 (q : Int) ∧ q ≤ 6 ∧ Cur wx B ca len cap (n + 6) ∧ Gr B w wx)
  case first =>
    cases bb with
    | true =>
      go_wp2_with fail
      refine (pick_any w2 B ca len cap (n + 2 + 2) 2 hl (by omega) (by omega) (by omega) C2.out (DC.out _ G2.out)).mono ?_
      rintro e w3 ⟨v, rfl, v0, v1, hc3, hb3⟩
      have G3 : Hid (Gr B w w3) := Gr.trans G2.out (Gr.of_sel hb3)
      have C3 : Hid (Cur w3 B ca len cap (n + 2 + 2 + 2)) := hc3
      obtain ⟨q, rfl⟩ := Int.eq_ofNat_of_zero_le v0
      clear hc3 hb3
      go_wp2
      go_meet
      exact ⟨5 + q, by go_num, by omega, C3.out, G3.out⟩
    | false =>
      go_wp2
      go_meet
      exact ⟨1 + m, by go_num, by omega, C2.out.mono (by omega), G2.out⟩
  case rest =>
    obtain ⟨q, rfl, hq, hc3, hg3⟩ := hcut
    have G3 : Hid (Gr B w wc) := hg3
    have C3 : Hid (Cur wc B ca len cap (n + 6)) := hc3
    clear hc3 hg3 G2 C2
    go_wp2
    go_loopw [3, 4] (fun v i wr => ∃ (k : Nat) (els : List (El PD)), i = .int .i64 (k : Int) ∧ els.length + k ≤ 6 ∧ bulkPs (els.map El.x) ≤ 200 * els.length ∧ RowO 67 3 EPart wr w.heap.size v els ∧ Cur wr B ca len cap (n + 6 + 20 * els.length) ∧ Gr B w wr) (fun _ i _ => (intOf i).toNat)
    case atStart => exact ⟨q, [], rfl, by simpa using hq, by simp [bulkPs], RowO.nil _ _ _ _ _, C3.out, G3.out⟩
    case round =>
      obtain ⟨k, els, rfl, hk, hbk, hro, hcr, hgr⟩ := hrel
      obtain ⟨va, vc, hv⟩ := hro.slice
      subst hv
      have HR : Hid (RowO 67 3 EPart wr w.heap.size (.slice va els.length vc) els) := hro
      have CR : Hid (Cur wr B ca len cap (n + 6 + 20 * els.length)) := hcr
      have GR : Hid (Gr B w wr) := hgr
      have HZ : Hid (w.heap.size ≤ wr.heap.size) := hgr.size
      clear hro hcr hgr
      by_cases hk0 : 0 < k
      · have dk : decide ((0 : Int) < (k : Int)) = true := by simp; omega
        obtain ⟨k2, hk2⟩ : ∃ k2, k = k2 + 1 := ⟨k - 1, by omega⟩
        subst hk2
        go_wp2_with fail
        refine (partOf_any wr B ca len cap (n + 6 + 20 * els.length) hl (by omega) CR.out (DC.out _ GR.out)).mono ?_
        rintro e w4 ⟨⟨p, u, rfl, hu, hbp⟩, hc4, hg4⟩
        obtain ⟨ua, uc, rfl, _⟩ := hu.slice
        have HU : Hid (RowM 1 EStr w4 (.slice ua p.cls.length uc) p.cls (iv wr w4)) := hu
        have G4 : Hid (Gr B wr w4) := hg4
        have C4 : Hid (Cur w4 B ca len cap (n + 6 + 20 * els.length + 20)) := hc4
        have HLE : Hid (els.length ≤ 10000000) := by show _ ≤ _; omega
        clear hu hg4 hc4
        have HEP : ∀ o1, Hid (EPart (w4.alloc o1) [.string p.ty, .string p.id, .slice ua p.cls.length uc] p (iv wr (w4.alloc o1))) := fun o1 => ⟨_, rfl, (HU.out.nw EStr.kept ((Below.refl _ _).alloc (Nat.le_refl _) _)).mono (iv_mono (by simp))⟩
        go_wp2_with (at_builtin; (refine wp_rwG EPart.kept Tryz.underlying34 Tryz.info67 rfl (by decide) (by decide) wr _ rfl _ _ rfl w.heap.size B _ els rfl HR.out (G4.out.alloc _) HB.out HZ.out _ rfl p [.string p.ty, .string p.id, .slice ua p.cls.length uc] ?c1 rfl ?c2 (HEP _).out HLE.out ?_))
        case c1 =>
          intro j y hj
          rcases (show j = 0 ∨ j = 1 ∨ j = 2 ∨ 3 ≤ j by omega) with rfl | rfl | rfl | h
          · simp at hj; subst hj; simp
          · simp at hj; subst hj; simp
          · simp at hj; subst hj; simp
          · rw [List.getElem?_eq_none (by simpa using h)] at hj; cases hj
        case c2 =>
          intro y hy
          simp only [List.mem_cons, List.not_mem_nil, or_false] at hy
          rcases hy with rfl | rfl | rfl <;> rfl
        intro v' w' h1 h2
        have hne : (Value.slice va els.length vc).ownBlock ≠ some B := fun e => by have := (HR.out.lt B e).1; have := HB.out; omega
        have C5 : Hid (Cur w' B ca len cap (n + 6 + 20 * els.length + 20)) := (C4.out.alloc _ _).ext h2 hne
        have G5 : Hid (Gr B w w') := Gr.ext (Gr.trans GR.out (G4.out.alloc _)) h2 (fun g e => (HR.out.lt g e).1)
        have H1 : Hid _ := h1
        clear h1 h2 hne
        go_wp2
        go_roundw
        case rel => exact ⟨k2, _, by go_num, by simp; omega, by rw [map_snoc, bulkPs_snoc]; simp; omega, H1.out, C5.out.mono (by simp; omega), G5.out⟩
        case measure => simp [intOf]
      · have hk1 : k = 0 := by omega
        subst hk1
        go_wp2
        go_ret
        exact ⟨⟨els, _, rfl, HR.out, by omega, hbk⟩, CR.out.mono (by omega), GR.out⟩
theorem SelOwn.drawn {m : Nat} {w w' : World} {e : Ending} (h : SelOwn m w w' e) : SelDrawn m w w' e := by
  obtain ⟨els, u, h1, h2, h3, h4⟩ := h
  exact ⟨els.map El.x, u, h1, RowO.row h2 (F := iv w w') (fun b h1 h2 => ⟨h1, h2⟩), by simpa using h3, by simpa using h4⟩
theorem selector_any (w : World) (B : Nat) (ca : Option Addr) (len cap n : Nat) (hl : len ≤ 9223372036854775807) (hn : n ≤ 1000000) (hc : Cur w B ca len cap n) (hd : Code w B ca len) :
    Calls Tryz.prog 34 #[.pointer (some ⟨B, 0, none⟩)] w fun e w' => SelDrawn 6 w w' e ∧ Cur w' B ca len cap (n + 126) ∧ Gr B w w' :=
  (selector_own w B ca len cap n hl hn hc hd).mono fun e w' h => ⟨h.1.drawn, h.2⟩
end Go.Proofs.YtnkmdmmlpidcmaaGreatDoor
namespace Go.Proofs.YtnkmdmmlpidcmaaGreatDoor
open Go.ChangeShapes Go.WideShapes Go.ChangeAt Go.RowKit
set_option linter.unusedVariables false

abbrev bl4 : List UInt8 := [9, 10, 13, 32]
/-- A text without the blanks around it. -/
def TB (s : ByteArray) : ByteArray := ⟨(Lib.trimS s.data.toList bl4).toArray⟩
theorem bl4_has (b : UInt8) : bl4.contains b = blankN b.toNat := by
  rw [Bool.eq_iff_iff]
  simp only [bl4, blankN, List.contains_iff_mem, List.mem_cons, List.not_mem_nil, or_false, decide_eq_true_eq]
  constructor
  · rintro (rfl | rfl | rfl | rfl) <;> simp
  · rintro (h | h | h | h)
    · exact Or.inl (UInt8.toNat_inj.1 h)
    · exact Or.inr (Or.inl (UInt8.toNat_inj.1 h))
    · exact Or.inr (Or.inr (Or.inl (UInt8.toNat_inj.1 h)))
    · exact Or.inr (Or.inr (Or.inr (UInt8.toNat_inj.1 h)))
theorem by_at (s : ByteArray) (k : Nat) (b : UInt8) (h : s.data.toList[k]? = some b) : k < s.size ∧ b.toNat = byN s k := by
  have hk : k < s.data.toList.length := by
    rcases Nat.lt_or_ge k s.data.toList.length with h1 | h1
    · exact h1
    · rw [List.getElem?_eq_none h1] at h; cases h
  have hk2 : k < s.size := by simpa using hk
  refine ⟨hk2, ?_⟩
  rw [byN_of s k hk2]
  have e : s[k] = s.data.toList[k] := rfl
  rw [e]
  rw [List.getElem?_eq_getElem hk] at h
  injection h with h
  rw [h]
theorem trim_cut (s : ByteArray) (i j : Nat) (hij : i ≤ j) (hj : j ≤ s.size) (h1 : ∀ k, k < i → blankN (byN s k) = true) (h2 : ∀ k, j ≤ k → k < s.size → blankN (byN s k) = true)
    (h3 : i < j → blankN (byN s i) = false) (h4 : i < j → blankN (byN s (j - 1)) = false) : TB s = s.extract i j := by
  have hl : s.data.toList.length = s.size := by simp
  have ex : s.extract i j = ⟨((s.data.toList.drop i).take (j - i)).toArray⟩ := by
    conv => lhs; rw [← Lib.mk_data s]
    rw [Lib.extract_mk]
  rw [ex]
  unfold TB Lib.trimS
  by_cases h : i < j
  · rw [Lib.trimRightS_take _ bl4 j (by omega) (fun k b hk hb => ?_) (fun b _ hb => ?_), Lib.trimLeftS_drop _ bl4 i (by rw [List.length_take]; omega) (fun k b hk hb => ?_) (fun b hb => ?_), List.drop_take]
    · rw [List.getElem?_take] at hb
      rw [if_pos (by omega)] at hb
      obtain ⟨_, e⟩ := by_at s k b hb
      rw [bl4_has, e]; exact h1 k hk
    · rw [List.getElem?_take, if_pos h] at hb
      obtain ⟨_, e⟩ := by_at s i b hb
      rw [bl4_has, e]; exact h3 h
    · obtain ⟨q, e⟩ := by_at s k b hb
      rw [bl4_has, e]; exact h2 k hk q
    · obtain ⟨_, e⟩ := by_at s (j - 1) b hb
      rw [bl4_has, e]; exact h4 h
  · have e : i = j := by omega
    subst e
    rw [Lib.trimRightS_take _ bl4 0 (by omega) (fun k b hk hb => ?_) (fun b h0 => absurd h0 (by omega)), List.take_zero, Lib.trimLeftS_nil, Nat.sub_self, List.take_zero]
    obtain ⟨q, e⟩ := by_at s k b hb
    rw [bl4_has, e]
    by_cases hk2 : k < i
    · exact h1 k hk2
    · exact h2 k (by omega) q
theorem dw_len {α : Type} (p : α → Bool) (l : List α) : (l.dropWhile p).length ≤ l.length := by
  induction l with
  | nil => exact Nat.le_refl _
  | cons x l ih =>
    rw [List.dropWhile_cons]
    cases p x with
    | true => simp only [if_true, List.length_cons]; omega
    | false => simp
theorem TB_le (s : ByteArray) : (TB s).size ≤ s.size := by
  unfold TB Lib.trimS Lib.trimLeftS Lib.trimRightS
  rw [Lib.size_mk, Lib.size_eq]
  refine Nat.le_trans (dw_len _ _) ?_
  rw [List.length_reverse]
  refine Nat.le_trans (dw_len _ _) ?_
  rw [List.length_reverse]
  exact Nat.le_refl _

theorem retb {a b : Bool} (h : a = b) : Ending.returned (.bool a) = .returned (.bool b) := by rw [h]
theorem sblank0 (w : World) (x : Nat) (h : x ≤ 255) : Calls Tryz.prog 106 #[.int .u8 (x : Int)] w fun e w' => e = .returned (.bool (blankN x)) ∧ w' = w := by
  go_enter Tryz.func106, Tryz.ntmps106
  go_wp2
  all_goals
    go_ret
    exact ⟨retb (by rw [Bool.eq_iff_iff]; simp [blankN]; omega), rfl⟩
theorem ex_size (s : ByteArray) (i j : Nat) (hij : i ≤ j) (hj : j ≤ s.size) : (s.extract i j).size = j - i := by
  rw [ByteArray.size_extract]; omega
theorem ex_at (s : ByteArray) (i j k : Nat) (hij : i + k < j) (hj : j ≤ s.size) (h : k < (s.extract i j).size) : (s.extract i j)[k].toNat = byN s (i + k) := by
  rw [byN_of s (i + k) (by omega), ByteArray.getElem_extract]
theorem ex_ex (s : ByteArray) (i j a b : Nat) (hj : j ≤ s.size) (hb : i + b ≤ j) : (s.extract i j).extract a b = s.extract (i + a) (i + b) := by
  rw [ByteArray.extract_extract, Nat.min_eq_left hb]
theorem ex_all (s : ByteArray) : s.extract 0 s.size = s := by
  have e : s.extract 0 s.size = (⟨s.data.toList.toArray⟩ : ByteArray).extract 0 s.size := by rw [Lib.mk_data]
  rw [e, Lib.extract_mk, List.drop_zero, List.take_of_length_le (by simp), Lib.mk_data]
set_option maxHeartbeats 1000000 in
/-- The specification's l5Trim. -/
theorem strim (s : ByteArray) (w : World) (hs : s.size ≤ 1048576) : Calls Tryz.prog 66 #[.string s] w fun e w' => e = .returned (.string (TB s)) ∧ w' = w := by
  go_enter Tryz.func66, Tryz.ntmps66
  go_wp2
  go_loop [0] (fun v => ∃ i : Nat, i ≤ s.size ∧ v = .string (s.extract i s.size) ∧ ∀ k, k < i → blankN (byN s k) = true) (fun v => Lib.strSize v)
  case atStart => exact ⟨0, Nat.zero_le _, by rw [ex_all], fun k hk => absurd hk (by omega)⟩
  case round =>
    obtain ⟨i, hi, rfl, hbl⟩ := hrel
    have HB : Hid _ := hbl
    clear hbl
    have hts := ex_size s i s.size hi (Nat.le_refl _)
    have HAt : Hid _ := ex_at s i s.size
    have HEx : Hid _ := ex_ex s i s.size
    obtain ⟨t, ht⟩ : ∃ t, s.extract i s.size = t := ⟨_, rfl⟩
    rw [ht] at hts HAt HEx ⊢
    have HT2 : Hid _ := ht
    clear ht
    by_cases h0 : i < s.size
    · have hsz0 : 0 < t.size := by omega
      have hat : Hid _ := HAt.out 0 (by omega) (Nat.le_refl _) hsz0
      have HX : Hid (t.extract 1 (s.size - i) = s.extract (i + 1) s.size) := by
        show _ = _
        have h := HEx.out 1 (s.size - i) (Nat.le_refl _) (by omega)
        rw [show i + (s.size - i) = s.size by omega] at h
        exact h
      have h255 : t[0].toNat ≤ 255 := by have := t[0].toNat_lt; omega
      clear HEx HAt
      cases hb : blankN (byN s i) with
      | true =>
        have HN : Hid _ := hb
        clear hb
        go_wp2_with fail
        refine (sblank0 _ t[0].toNat h255).mono ?_
        rintro e w' ⟨rfl, rfl⟩
        rw [hat.out, Nat.add_zero, HN.out]
        go_wp2
        go_round
        case rel => exact ⟨i + 1, by omega, by rw [HX.out], fun k hk => by
          rcases Nat.lt_succ_iff_lt_or_eq.1 hk with h | rfl
          · exact HB.out k h
          · exact HN.out⟩
        case measure => simp [Lib.strSize, hts]; omega
      | false =>
        have HE : Hid (i < s.size → blankN (byN s i) = false) := fun _ => hb
        clear hb
        go_wp2_with fail
        refine (sblank0 _ t[0].toNat h255).mono ?_
        rintro e w' ⟨rfl, rfl⟩
        rw [hat.out, Nat.add_zero, HE.out h0]
        go_wp2
        rw [← HT2.out]
        go_loop [0] (fun v => ∃ j : Nat, i ≤ j ∧ j ≤ s.size ∧ v = .string (s.extract i j) ∧ ∀ k, j ≤ k → k < s.size → blankN (byN s k) = true) (fun v => Lib.strSize v)
        case atStart => exact ⟨s.size, hi, Nat.le_refl _, rfl, fun k h1 h2 => absurd h1 (by omega)⟩
        case round =>
          obtain ⟨j, hij, hj, rfl, hbl⟩ := hrel
          have HC : Hid _ := hbl
          clear hbl HT2 hts
          have hts2 := ex_size s i j hij hj
          have HAt : Hid _ := ex_at s i j
          have HEx : Hid _ := ex_ex s i j
          obtain ⟨t2, ht2⟩ : ∃ t2, s.extract i j = t2 := ⟨_, rfl⟩
          rw [ht2] at hts2 HAt HEx ⊢
          have HT3 : Hid _ := ht2
          clear ht2
          by_cases h1 : i < j
          · have hsz1 : j - i - 1 < t2.size := by omega
            have hat : Hid _ := HAt.out (j - i - 1) (by omega) hj hsz1
            have HX : Hid (t2.extract 0 (j - i - 1) = s.extract i (j - 1)) := by
              show _ = _
              have h := HEx.out 0 (j - i - 1) hj (by omega)
              rw [show i + (j - i - 1) = j - 1 by omega, Nat.add_zero] at h
              exact h
            have h255 : t2[j - i - 1].toNat ≤ 255 := by have := t2[j - i - 1].toNat_lt; omega
            have hw1 : ((j - i : Nat) : Int) - 1 = ((j - i - 1 : Nat) : Int) := by omega
            clear HEx HAt
            cases hb : blankN (byN s (j - 1)) with
            | true =>
              have HN : Hid _ := hb
              clear hb
              go_wp2_with fail
              refine (sblank0 _ t2[j - i - 1].toNat h255).mono ?_
              rintro e w' ⟨rfl, rfl⟩
              rw [hat.out, show i + (j - i - 1) = j - 1 by omega, HN.out]
              go_wp2
              go_round
              case rel => exact ⟨j - 1, by omega, by omega, by rw [HX.out], fun k h2 h3 => by
                by_cases h4 : k = j - 1
                · rw [h4]; exact HN.out
                · exact HC.out k (by omega) h3⟩
              case measure => simp [Lib.strSize, hts2]; omega
            | false =>
              have HN : Hid _ := hb
              clear hb
              go_wp2_with fail
              refine (sblank0 _ t2[j - i - 1].toNat h255).mono ?_
              rintro e w' ⟨rfl, rfl⟩
              rw [hat.out, show i + (j - i - 1) = j - 1 by omega, HN.out]
              go_wp2
              go_ret
              exact ⟨by rw [trim_cut s i j hij hj HB.out HC.out (fun _ => HE.out (by omega)) (fun _ => HN.out), HT3.out]; rfl, rfl⟩
          · have h2 : j = i := by omega
            clear HEx HAt
            have h3 : t2.size = 0 := by omega
            clear hts2
            go_wp2
            go_ret
            exact ⟨by rw [trim_cut s i j hij hj HB.out HC.out (fun h => absurd h h1) (fun h => absurd h h1), HT3.out]; rfl, rfl⟩
    · have HE : Hid (i < s.size → blankN (byN s i) = false) := fun h => absurd h h0
      have h2 : t.size = 0 := by omega
      clear HAt HEx
      go_wp2
      rw [← HT2.out]
      go_loop [0] (fun v => ∃ j : Nat, i ≤ j ∧ j ≤ s.size ∧ v = .string (s.extract i j) ∧ ∀ k, j ≤ k → k < s.size → blankN (byN s k) = true) (fun v => Lib.strSize v)
      case atStart => exact ⟨s.size, hi, Nat.le_refl _, rfl, fun k h1 h2 => absurd h1 (by omega)⟩
      case round =>
        obtain ⟨j, hij, hj, rfl, hbl⟩ := hrel
        have HC : Hid _ := hbl
        clear hbl HT2 hts
        have hts2 := ex_size s i j hij hj
        have HAt : Hid _ := ex_at s i j
        have HEx : Hid _ := ex_ex s i j
        obtain ⟨t2, ht2⟩ : ∃ t2, s.extract i j = t2 := ⟨_, rfl⟩
        rw [ht2] at hts2 HAt HEx ⊢
        have HT3 : Hid _ := ht2
        clear ht2
        by_cases h1 : i < j
        · exact absurd h1 (by omega)
        · have h2 : j = i := by omega
          clear HEx HAt
          have h3 : t2.size = 0 := by omega
          clear hts2
          go_wp2
          go_ret
          exact ⟨by rw [trim_cut s i j hij hj HB.out HC.out (fun h => absurd h h1) (fun h => absurd h h1), HT3.out]; rfl, rfl⟩
end Go.Proofs.YtnkmdmmlpidcmaaGreatDoor

/-
  What the specification's draw of a point answers: some point
-/
import Derived.Test.YtnkeljmecbohkaaGreatJAV
import Derived.Test.YtnkeljmecbohkaaGreatJAD
import Derived.Test.YtnkeljmecbohkaaGreatJAB
import Derived.Test.YtnkeljmecbohkaaGreatJAF
import Derived.Test.YtnkeljmecbohkaaGreatJAL
import Derived.Test.YtnkeljmecbohkaaGreatJAO
import Derived.Test.YtnkeljmecbohkaaGreatJAA
namespace Go.Proofs.YtnkeljmecbohkaaGreat
open Go.ChangeShapes Go.WideShapes Go.ChangeAt Go.RowKit
set_option linter.unusedVariables false
theorem gr_mid {a b : World} {g lo hi : Nat} (h : Gr g a b) (h1 : lo ≤ g) (h2 : g < hi) : Mid lo hi a b := by
 have h' : a.grownBy b (some g) := h
 exact ⟨h'.os, h'.tape, h'.output, h'.size, fun k hk hb => h'.block k hk (fun e => by injection e; omega)⟩
theorem OwnQ.gr {T : TypeId} {w w' : World} {B W : Nat} {v : Value} {l : List VV} (h : OwnQ T w W v l) (k : Gr B w w') (hB : B < W) : OwnQ T w' W v l :=
 OwnQ.mid h (gr_mid k (Nat.le_refl B) (Nat.lt_succ_self B)) hB
theorem OwnP.gr {w w' : World} {B W : Nat} {v : Value} {l : List Pnt} (h : OwnP w W v l) (k : Gr B w w') (hB : B < W) : OwnP w' W v l := OwnQ.gr h k hB
theorem OwnLn.gr {w w' : World} {B W : Nat} {v : Value} {it : Its} (h : OwnLn w W v it) (k : Gr B w w') (hB : B < W) : OwnLn w' W v it :=
 OwnLn.mid h (gr_mid k (Nat.le_refl B) (Nat.lt_succ_self B)) hB
theorem nums_allocN (l : List Int) (w : World) (t : TypeId) : Nums (w.alloc (.cells (l.map (Value.int .i64)).toArray t)) w.heap.size l := by
 intro i h
 rw [World.cell?_alloc_new]
 simp [h]
theorem among_litN (w : World) (B : Nat) (l : List Int) (t : TypeId) (ca : Option Addr) (len cap n : Nat) (hl : len ≤ 9223372036854775807) (hn : n ≤ 1000000000) (l1 : 2 ≤ l.length) (l2 : l.length ≤ 1000) (hc : Cur w B ca len cap n) (hd : Code w B ca len) :
  Calls Tryz.prog 24 #[.pointer (some ⟨B, 0, none⟩), .slice (some ⟨w.heap.size, 0, none⟩) l.length l.length] (w.alloc (.cells (l.map (Value.int .i64)).toArray t)) fun e w' => ∃ v : Int, e = .returned (.int .i64 v) ∧ v ∈ l ∧ Cur w' B ca len cap (n + 2) ∧ Gr B w w' := by
 have hB := hc.lt
 refine (among_any _ B w.heap.size l.length l rfl ca len cap n hl hn l1 l2 (by omega) (nums_allocN l w t) (hc.alloc _ _) (Code.alloc hd (by omega) _)).mono ?_
 rintro e w' ⟨v, rfl, hv, hc1, hs⟩
 exact ⟨v, rfl, hv, hc1, Gr.trans ((Gr.refl B w).alloc _) (Gr.of_sel hs)⟩
set_option maxRecDepth 100000 in
set_option maxHeartbeats 4000000 in
theorem near_any (w : World) (B : Nat) (ca : Option Addr) (len cap n : Nat) (hl : len ≤ 9223372036854775807) (hn : n ≤ 10000000) (hc : Cur w B ca len cap n) (hd : Code w B ca len) :
  Calls Tryz.prog 57 #[.pointer (some ⟨B, 0, none⟩)] w fun e w' => ∃ q : Pnt, e = .returned (.agg #[.int .i64 q.1, .int .i64 q.2]) ∧ Cur w' B ca len cap (n + 6) ∧ Gr B w w' := by
 have hB := hc.lt
 obtain ⟨R, hR⟩ : ∃ R, w.heap.size = R := ⟨_, rfl⟩
 obtain ⟨W0, hW0⟩ : ∃ W0, w.alloc (.cells #[.int .i64 0, .int .i64 0] 34) = W0 := ⟨_, rfl⟩
 have hs0 : W0.heap.size = R + 1 := by rw [← hW0, ← hR]; simp
 have za : W0.cell? ⟨R, 0, none⟩ = some (.int .i64 0) := by rw [← hW0, ← hR]; simp
 have zb : W0.cell? ⟨R, 1, none⟩ = some (.int .i64 0) := by rw [← hW0, ← hR]; simp
 have zc : ∀ o, W0.frozen? ⟨R, o, none⟩ = false := fun o => by rw [← hW0, ← hR]; exact World.frozen?_alloc_at _ _ _ _ rfl
 rw [hR] at hB
 have HZ : Hid (∀ w', Gr B W0 w' → w'.cell? ⟨R, 0, none⟩ = some (.int .i64 0) ∧ w'.cell? ⟨R, 1, none⟩ = some (.int .i64 0) ∧ ∀ o, w'.frozen? ⟨R, o, none⟩ = false) := fun w' g => ⟨(g.cell (by omega) (by omega) 0).trans za, (g.cell (by omega) (by omega) 1).trans zb, fun o => (g.frozen (by omega) (by omega) o).trans (zc o)⟩
 have G0 : Hid (Gr B w W0) := by show Gr _ _ _; rw [← hW0]; exact (Gr.refl B w).alloc _
 have C0 : Hid (Cur W0 B ca len cap n) := by show Cur _ _ _ _ _ _; rw [← hW0]; exact hc.alloc _ _
 have d0 : Code W0 B ca len := by rw [← hW0]; exact hd.alloc (by omega) _
 have HD : Hid (∀ w', Gr B W0 w' → Code w' B ca len) := fun w' g => Code.below d0 (g.below (by omega))
 have HW0 : Hid (_ = W0) := hW0
 have HR : Hid (w.heap.size = R) := hR
 clear hc hd hW0 za zb zc d0 hs0 hR
 go_enter Tryz.func57, Tryz.ntmps57
 go_wp2_with fail
 rw [HW0.out, HR.out]
 refine (one_any W0 B ca len cap n 30 hl (by omega) (by omega) (by omega) C0.out (HD.out _ (Gr.refl _ _))).mono ?_
 rintro e w1 ⟨o, rfl, hc1, hb1⟩
 have C1 : Hid (Cur w1 B ca len cap (n + 2)) := hc1
 have G1 : Hid (Gr B W0 w1) := Gr.of_sel hb1
 clear hc1 hb1 C0
 cases o with
 | true =>
  go_wp2_with fail
  refine (among_litN w1 B [67108864, -67108864, 67108865] 3 ca len cap _ hl (by omega) (by decide) (by decide) C1.out (HD.out _ G1.out)).mono ?_
  rintro e w2 ⟨x, rfl, _, hc2, hg2⟩
  have C2 : Hid (Cur w2 B ca len cap (n + 2 + 2)) := hc2
  have G2 : Hid (Gr B W0 w2) := G1.out.trans hg2
  clear hc2 hg2 C1 G1
  obtain ⟨z0, z1, zf⟩ := HZ.out _ G2.out
  obtain ⟨y0, y1⟩ := set2 w2 R (.int .i64 x) (.int .i64 0) z0 z1
  go_wp2
  refine bodyPost_ret (v := .agg #[.int .i64 x, .int .i64 0]) (by simp [results, Tryz.results57, go_sem, y0, y1]) rfl ⟨(x, 0), rfl, ?_, ?_⟩
  ·exact Cur.mono ((C2.out.set (by omega) _ _).set (by omega) _ _) (by omega)
  ·exact ((G0.out.trans G2.out).set (by rw [HR.out]; omega) _ _).set (by rw [HR.out]; omega) _ _
 | false =>
  go_wp2_with fail
  refine (pick_any w1 B ca len cap _ 60 hl (by omega) (by omega) (by omega) C1.out (HD.out _ G1.out)).mono ?_
  rintro e w2 ⟨x, rfl, x0, x1, hc2, hb2⟩
  have C2 : Hid (Cur w2 B ca len cap (n + 2 + 2)) := hc2
  have G2 : Hid (Gr B W0 w2) := G1.out.trans (Gr.of_sel hb2)
  clear hc2 hb2 C1 G1
  go_wp2_with fail
  refine (pick_any w2 B ca len cap _ 60 hl (by omega) (by omega) (by omega) C2.out (HD.out _ G2.out)).mono ?_
  rintro e w3 ⟨y, rfl, y0, y1, hc3, hb3⟩
  have C3 : Hid (Cur w3 B ca len cap (n + 2 + 2 + 2)) := hc3
  have G3 : Hid (Gr B W0 w3) := G2.out.trans (Gr.of_sel hb3)
  clear hc3 hb3 C2 G2
  obtain ⟨z0, z1, zf⟩ := HZ.out _ G3.out
  obtain ⟨r0, r1⟩ := set2 w3 R (.int .i64 ((x - 10) * 32768)) (.int .i64 ((y - 10) * 32768)) z0 z1
  go_wp2
  refine bodyPost_ret (v := .agg #[.int .i64 ((x - 10) * 32768), .int .i64 ((y - 10) * 32768)]) (by simp [results, Tryz.results57, go_sem, r0, r1]) rfl ⟨((x - 10) * 32768, (y - 10) * 32768), rfl, ?_, ?_⟩
  ·exact (C3.out.set (by omega) _ _).set (by omega) _ _
  ·exact ((G0.out.trans G3.out).set (by rw [HR.out]; omega) _ _).set (by rw [HR.out]; omega) _ _
structure NLA where
 B : Nat
 L : Nat
 ca : Option Addr
 len : Nat
 cap : Nat
 n : Nat
 v : Value
 l : List Pnt
 W : World
 a0 : Act
structure NLAOk (X : NLA) : Prop where
 hB : X.B < X.L
 own : OwnP X.W (X.L + 1) (X.v) X.l
 hl : X.l.length ≤ 100000
 hL : X.L < X.W.heap.size
 c0 : X.W.cell? ⟨X.L, 0, none⟩ = some (X.v)
 fz : ∀ o, X.W.frozen? ⟨X.L, o, none⟩ = false
 code : ∀ w, Gr X.B X.W w → Code w X.B X.ca X.len
 hlen : X.len ≤ 9223372036854775807
 hn : X.n ≤ 1000000
 e0 : X.a0.eval (.tmp 0) = .pointer (some ⟨X.B, 0, none⟩)
 e3 : X.a0.eval (.tmp 3) = .pointer (some ⟨X.L, 0, none⟩)
 sz : X.a0.tmps.size = 38
def NLA.val0 (X : NLA) : Nat → Value
 | 0 => .pointer (some ⟨X.B, 0, none⟩)
 | 3 => .pointer (some ⟨X.L, 0, none⟩)
 | 15 => .pointer (some ⟨X.L, 0, none⟩)
 | 16 => X.v
 | 17 => .pointer (some ⟨X.B, 0, none⟩)
 | 21 => .pointer (some ⟨X.L, 0, none⟩)
 | _ => undef
def NLA.av : Nat → Option Nat
 | 18 => some 0
 | 19 => some 1
 | 20 => some 2
 | _ => none
def NLA.acts : List Nat := [3, 4, 5, 7]
def NLA.Wd (X : NLA) : Nat → (Nat → Value) → World → Prop
  | 0, _, w => Gr X.B X.W w ∧ Cur w X.B X.ca X.len X.cap (X.n)
  | 1, γ, w => (∃ q : Pnt, γ 0 = .agg #[.int .i64 q.1, .int .i64 q.2]) ∧ Gr X.B X.W w ∧ Cur w X.B X.ca X.len X.cap (X.n + 6)
  | 2, γ, w => ∃ (q : Pnt) (g : Nat), γ 1 = .slice (some ⟨g, 0, none⟩) 1 1 ∧ (w.cell? ⟨g, 0, none⟩ = some (.int .i64 q.1) ∧ w.cell? ⟨g, 1, none⟩ = some (.int .i64 q.2)) ∧ Gr X.B X.W w ∧ Cur w X.B X.ca X.len X.cap (X.n + 6)
  | 3, γ, w => ∃ (q : Pnt) (g c : Nat) (w1 : World), γ 2 = .slice (some ⟨g, 0, none⟩) (X.l.length + 1) c ∧ OwnP w (X.L + 1) (γ 2) (X.l ++ [q]) ∧ Ext (X.v) (γ 2) w1 w ∧ Gr X.B X.W w1 ∧ Cur w1 X.B X.ca X.len X.cap (X.n + 6)
  | _, γ, w => ∃ (q : Pnt) (v : Value) (w1 w2 : World), OwnP w2 (X.L + 1) v (X.l ++ [q]) ∧ Ext (X.v) v w1 w2 ∧ Gr X.B X.W w1 ∧ Cur w1 X.B X.ca X.len X.cap (X.n + 6) ∧ w = w2.setCell ⟨X.L, 0, none⟩ v
theorem NLA.gr {X : NLA} : ∀ {n : Nat} {γ : Nat → Value} {w : World}, X.Wd n γ w → n ≤ 2 → Gr X.B X.W w
  | 0, _, _, h, _ => h.1
  | 1, _, _, h, _ => h.2.1
  | 2, _, _, h, _ => by obtain ⟨_, _, _, _, h, _⟩ := h; exact h
  | _ + 3, _, _, _, h => absurd h (by omega)
theorem NLA.chain : chainG (opsOf 5 Tryz.f21) NLA.acts = true := by kernel_rfl
theorem NLA.nodup : NLA.acts.Nodup := by decide
def NLA.ol : List (Option Nat × Op × Option (Nat × Bool)) := [
 (some 15, .fieldAddr 25 (.tmp 3) 0, none),
 (some 16, .load 23 (.tmp 15), none),
 (some 17, .move (.tmp 0), none),
 (some 18, .call { callee := .value (.func 57), args := #[(.tmp 17)], argTypes := #[51] }, none),
 (some 19, .buildSlice 23 1 #[(0, (.tmp 18))], none),
 (some 20, .call { callee := .builtin .append, args := #[(.tmp 16), (.tmp 19)], argTypes := #[23, 23] }, none),
 (some 21, .fieldAddr 25 (.tmp 3) 0, none),
 (none, .store 23 (.tmp 21) (.tmp 20), none)]
theorem NLA.isL : (opsOf 5 Tryz.f21).toList.map tri = NLA.ol := by kernel_rfl
theorem NLA.ini {X : NLA} (ok : NLAOk X) : ∀ n ∈ [0, 3], X.a0.eval (.tmp n) = X.val0 n := by
 simp only [List.forall_mem_cons]
 exact ⟨ok.e0, ok.e3, List.forall_mem_nil _⟩
abbrev NLA.St (X : NLA) (Q : PQ) (i : Nat) : Prop := StepG (opsOf 5 Tryz.f21) NLA.acts NLA.av X.val0 X.Wd X.a0 Q i
theorem NLA.plain (X : NLA) (ok : NLAOk X) {Q : PQ} : ∀ i ∈ [0, 2, 6], NLA.St X Q i := by
 simp only [List.forall_mem_cons]
 refine ⟨?_, ?_, ?_, List.forall_mem_nil _⟩
 all_goals
  refine st_plain NLA.isL (NLA.ini ok) ok.sz rfl (by kernel_rfl) ?_
  intro γ w n o hW hop
  unfold execOp
  rw [hop]
  simp [envR, valG, NLA.av, NLA.val0, go_sem]
theorem NLA.s1 (X : NLA) (ok : NLAOk X) {Q : PQ} : NLA.St X Q 1 := by
 intro γ listed a w o hF hC hW h1 ho h2
 obtain ⟨hd, hop, hg⟩ := fieldsL NLA.isL (i := 1) rfl ho
 have e15 : a.eval (.tmp 15) = .pointer (some ⟨X.L, 0, none⟩) := known hF ho h2 (NLA.ini ok) ok.sz (by kernel_rfl)
 have hph := phase_leG (acts := NLA.acts) (m := 2) (x := 5) hC (unl (hF.lt ho) h1) rfl [1] (by kernel_rfl) (by decide)
 have hWW := hW
 generalize phase listed NLA.acts = n at hph hWW
 have hk := NLA.gr hWW hph
 have h0 : w.cell? ⟨X.L, 0, none⟩ = some X.v := (hk.cell ok.hL (by have := ok.hB; omega) 0).trans ok.c0
 refine st_pureG hF hC hW ho h2 (by decide) hd hg rfl ?_
 show _ = Result.ok (Next.value (X.v)) w
 generalize a.eval = ρ at e15 ⊢
 unfold execOp
 rw [hop]
 simp [e15, h0, go_sem]
theorem NLA.s3 (X : NLA) (ok : NLAOk X) {Q : PQ} : NLA.St X Q 3 := by
 intro γ listed a w o hF hC hW h1 ho h2
 obtain ⟨hd, hop, hg⟩ := fieldsL NLA.isL (i := 3) rfl ho
 have e17 : a.eval (.tmp 17) = .pointer (some ⟨X.B, 0, none⟩) := known hF ho h2 (NLA.ini ok) ok.sz (by kernel_rfl)
 have ef : a.eval (.func 57) = .func (.func 57) #[] #[] := rfl
 have hu := unl (hF.lt ho) h1
 refine st_actG (k := 0) NLA.chain NLA.nodup rfl hF hC hW h1 ho h2 (Or.inr ⟨18, hd, rfl⟩) (injG (by kernel_rfl) hu) hg ?_
 intro hW0 K hK
 obtain ⟨hg1, hc1⟩ := hW0
 have hr : (execOp a.eval o).run Tryz.prog w = .ok (.enter 57 #[.pointer (some ⟨X.B, 0, none⟩)]) w := by
  generalize a.eval = ρ at e17 ef ⊢
  unfold execOp
  rw [hop]
  simp [e17, ef, go_sem]
 unfold Oper.wp
 rw [hr]
 refine Calls.mono (near_any w X.B X.ca X.len X.cap X.n ok.hlen (by have := ok.hn; omega) hc1 (ok.code _ hg1)) ?_
 rintro e w' ⟨q, rfl, hc2, hs⟩
 exact hK _ _ ⟨⟨q, rfl⟩, hg1.trans hs, hc2⟩
theorem NLA.s4 (X : NLA) (ok : NLAOk X) {Q : PQ} : NLA.St X Q 4 := by
 intro γ listed a w o hF hC hW h1 ho h2
 obtain ⟨hd, hop, hg⟩ := fieldsL NLA.isL (i := 4) rfl ho
 have e18 : a.eval (.tmp 18) = γ 0 := known hF ho h2 (NLA.ini ok) ok.sz (by kernel_rfl)
 have hu := unl (hF.lt ho) h1
 refine st_actG (k := 1) NLA.chain NLA.nodup rfl hF hC hW h1 ho h2 (Or.inr ⟨19, hd, rfl⟩) (injG (by kernel_rfl) hu) hg ?_
 intro hW0 K hK
 obtain ⟨⟨q, g0⟩, hg1, hc1⟩ := hW0
 rw [g0] at e18
 have hr : (execOp a.eval o).run Tryz.prog w = .ok (.value (.slice (some ⟨w.heap.size, 0, none⟩) 1 1)) (w.alloc (.cells #[.int .i64 q.1, .int .i64 q.2] 34)) := by
  generalize a.eval = ρ at e18 ⊢
  unfold execOp
  rw [hop]
  simp [e18, go_sem]
 unfold Oper.wp
 rw [hr]
 exact hK _ _ ⟨q, w.heap.size, rfl, ⟨by simp, by simp⟩, hg1.alloc _, hc1.alloc _ _⟩
theorem NLA.s5 (X : NLA) (ok : NLAOk X) {Q : PQ} : NLA.St X Q 5 := by
 intro γ listed a w o hF hC hW h1 ho h2
 obtain ⟨hd, hop, hg⟩ := fieldsL NLA.isL (i := 5) rfl ho
 have e16 : a.eval (.tmp 16) = X.v := known hF ho h2 (NLA.ini ok) ok.sz (by kernel_rfl)
 have e19 : a.eval (.tmp 19) = γ 1 := known hF ho h2 (NLA.ini ok) ok.sz (by kernel_rfl)
 have hu := unl (hF.lt ho) h1
 refine st_actG (k := 2) NLA.chain NLA.nodup rfl hF hC hW h1 ho h2 (Or.inr ⟨20, hd, rfl⟩) (injG (by kernel_rfl) hu) hg ?_
 intro hW0 K hK
 obtain ⟨q, g, g2, ⟨q0, q1⟩, hg1, hc1⟩ := hW0
 rw [g2] at e19
 have hz := hg1.size
 refine wp_q 34 23 23 (.int .i64 0) (.int .i64 0) 16 under_pts under_pts Tryz.info34 (by decide) rfl w (.tmp 16) (.tmp 19) hop (X.L + 1) (X.v) (vP X.l) (vP [q]) e16 (OwnP.gr ok.own hg1 (by have := ok.hB; omega)) g 0 1 1 rfl e19 (fun i hi => by
  have : i = 0 := by simp [vP] at hi; omega
  subst this
  exact ⟨by simpa [vP, vvAt] using q0, by simpa [vP, vvAt] using q1⟩) (vP_one _) (by simp [vP]) (by rw [vP_len]; have := ok.hl; simp [vP]; omega) (by have := ok.hL; omega) ?_
 intro g' c' w' h3 h4
 rw [vP_len, ← vP_append] at h3
 rw [vP_len] at h4 ⊢
 exact hK _ _ ⟨q, g', c', w, rfl, h3, h4, hg1, hc1⟩
theorem NLA.s7 (X : NLA) (ok : NLAOk X) {Q : PQ} : NLA.St X Q 7 := by
 intro γ listed a w o hF hC hW h1 ho h2
 obtain ⟨hd, hop, hg⟩ := fieldsL NLA.isL (i := 7) rfl ho
 have e21 : a.eval (.tmp 21) = .pointer (some ⟨X.L, 0, none⟩) := known hF ho h2 (NLA.ini ok) ok.sz (by kernel_rfl)
 have e20 : a.eval (.tmp 20) = γ 2 := known hF ho h2 (NLA.ini ok) ok.sz (by kernel_rfl)
 have hu := unl (hF.lt ho) h1
 refine st_actG (k := 3) NLA.chain NLA.nodup rfl hF hC hW h1 ho h2 (Or.inl hd) (injG (by kernel_rfl) hu) hg ?_
 intro hW0 K hK
 obtain ⟨q, g, c, w1, hv, h3, h4, hg1, hc1⟩ := hW0
 have hlt1 : X.L < w1.heap.size := Nat.lt_of_lt_of_le ok.hL hg1.size
 have hne : X.L ≠ X.B := by have := ok.hB; omega
 have hvn : Value.ownBlock (X.v) ≠ some X.L := fun e => by have := (OwnQ.lt ok.own _ e).1; omega
 have z0 : w.cell? ⟨X.L, 0, none⟩ = some (X.v) := (Ext.cell h4 hlt1 hvn 0).trans ((hg1.cell ok.hL hne 0).trans ok.c0)
 have zf : w.frozen? ⟨X.L, 0, none⟩ = false := (World.frozen?_of_block (a := ⟨X.L, 0, none⟩) (h4.1.block X.L hlt1 (fun e => hvn e.symm))).trans ((hg1.frozen ok.hL hne 0).trans (ok.fz 0))
 have e20' := e20
 rw [hv] at e20
 have hr : (execOp a.eval o).run Tryz.prog w = .ok .skip (w.setCell ⟨X.L, 0, none⟩ (.slice (some ⟨g, 0, none⟩) (X.l.length + 1) c)) := by
  generalize a.eval = ρ at e21 e20 ⊢
  unfold execOp
  rw [hop]
  simp [e21, e20, z0, zf, go_sem]
 unfold Oper.wp
 rw [hr]
 rw [hv] at h3 h4
 exact hK _ _ ⟨q, _, w1, w, h3, h4, hg1, hc1, rfl⟩
theorem NLA.size : (opsOf 5 Tryz.f21).size = 8 := by kernel_rfl
theorem NLA.rest (X : NLA) (ok : NLAOk X) {Q : PQ} : ∀ i ∈ [1, 3, 4, 5, 7], NLA.St X Q i := by
 simp only [List.forall_mem_cons]
 exact ⟨NLA.s1 X ok,
  NLA.s3 X ok,
  NLA.s4 X ok,
  NLA.s5 X ok,
  NLA.s7 X ok, List.forall_mem_nil _⟩
theorem NLA.steps (X : NLA) (ok : NLAOk X) {Q : PQ} (i : Nat) (hi : i < (opsOf 5 Tryz.f21).size) : NLA.St X Q i := by
 rw [NLA.size] at hi
 rcases (by decide : ∀ i, i < 8 → i ∈ [0, 2, 6] ∨ i ∈ [1, 3, 4, 5, 7]) i hi with h | h
 · exact NLA.plain X ok i h
 · exact NLA.rest X ok i h
theorem NLA.run (X : NLA) (ok : NLAOk X) {Q : PQ} (w : World) (h0 : X.Wd 0 (fun _ => undef) w.drew) (hend : ∀ (γ : Nat → Value) w', X.Wd 4 γ w' → Q .normal (((((((X.a0.put (some 15) (.pointer (some ⟨X.L, 0, none⟩))).put (some 16) (X.v)).put (some 17) (.pointer (some ⟨X.B, 0, none⟩))).put (some 18) (γ 0)).put (some 19) (γ 1)).put (some 20) (γ 2)).put (some 21) (.pointer (some ⟨X.L, 0, none⟩))) w') : (Code.region 5 (opsOf 5 Tryz.f21) true).wp Tryz.prog Q X.a0 w := by
 refine reg_act (acts := NLA.acts) (av := NLA.av) (val0 := X.val0) (Wd := X.Wd) (by kernel_rfl) (by kernel_rfl) (by rw [NLA.size]; decide) (fun i hi => NLA.steps X ok i hi) _ h0 ?_
 intro γ w' h
 exact end_at (hend γ w' h) (by kernel_rfl)
structure NLB where
 B : Nat
 L : Nat
 gb : Nat
 go : Nat
 m : Nat
 k : Nat
 cc : Nat
 x : Int
 y : Int
 l : List Pnt
 W : World
 a0 : Act
structure NLBOk (X : NLB) : Prop where
 hB : X.B < X.L
 own : OwnP X.W (X.L + 1) (.slice (some ⟨X.gb, X.go, none⟩) X.m X.cc) X.l
 hl : X.l.length ≤ 100000
 hL : X.L < X.W.heap.size
 c0 : X.W.cell? ⟨X.L, 0, none⟩ = some (.slice (some ⟨X.gb, X.go, none⟩) X.m X.cc)
 fz : ∀ o, X.W.frozen? ⟨X.L, o, none⟩ = false
 hm : X.l.length = X.m
 hk : X.k < X.m
 wk : IntKind.i64.wrap ((X.m : Int) - 1) = (X.k : Int)
 cx : X.W.cell? ⟨X.gb, X.go + X.k * 2, none⟩ = some (.int .i64 X.x)
 cy : X.W.cell? ⟨X.gb, X.go + X.k * 2 + 1, none⟩ = some (.int .i64 X.y)
 e3 : X.a0.eval (.tmp 3) = .pointer (some ⟨X.L, 0, none⟩)
 sz : X.a0.tmps.size = 38
def NLB.val0 (X : NLB) : Nat → Value
 | 3 => .pointer (some ⟨X.L, 0, none⟩)
 | 24 => .pointer (some ⟨X.L, 0, none⟩)
 | 25 => .slice (some ⟨X.gb, X.go, none⟩) X.m X.cc
 | 26 => .pointer (some ⟨X.L, 0, none⟩)
 | 27 => .slice (some ⟨X.gb, X.go, none⟩) X.m X.cc
 | 28 => .pointer (some ⟨X.L, 0, none⟩)
 | 29 => .slice (some ⟨X.gb, X.go, none⟩) X.m X.cc
 | 30 => .int .i64 (X.m : Int)
 | 31 => .int .i64 (X.k : Int)
 | 32 => .pointer (some ⟨X.gb, X.go + X.k * 2, none⟩)
 | 33 => .agg #[.int .i64 X.x, .int .i64 X.y]
 | 36 => .pointer (some ⟨X.L, 0, none⟩)
 | _ => undef
def NLB.av : Nat → Option Nat
 | 34 => some 0
 | 35 => some 1
 | _ => none
def NLB.acts : List Nat := [10, 11, 13]
def NLB.Wd (X : NLB) : Nat → (Nat → Value) → World → Prop
  | 0, _, w => w = X.W
  | 1, γ, w => ∃ (q : Pnt) (g : Nat), q = (X.x, X.y) ∧ γ 0 = .slice (some ⟨g, 0, none⟩) 1 1 ∧ (w.cell? ⟨g, 0, none⟩ = some (.int .i64 q.1) ∧ w.cell? ⟨g, 1, none⟩ = some (.int .i64 q.2)) ∧ Nw X.W w
  | 2, γ, w => ∃ (q : Pnt) (g c : Nat) (w1 : World), q = (X.x, X.y) ∧ γ 1 = .slice (some ⟨g, 0, none⟩) (X.l.length + 1) c ∧ OwnP w (X.L + 1) (γ 1) (X.l ++ [q]) ∧ Ext (.slice (some ⟨X.gb, X.go, none⟩) X.m X.cc) (γ 1) w1 w ∧ Nw X.W w1
  | _, γ, w => ∃ (q : Pnt) (v : Value) (w1 w2 : World), q = (X.x, X.y) ∧ OwnP w2 (X.L + 1) v (X.l ++ [q]) ∧ Ext (.slice (some ⟨X.gb, X.go, none⟩) X.m X.cc) v w1 w2 ∧ Nw X.W w1 ∧ w = w2.setCell ⟨X.L, 0, none⟩ v
theorem NLB.gr {X : NLB} : ∀ {n : Nat} {γ : Nat → Value} {w : World}, X.Wd n γ w → n ≤ 1 → Nw X.W w
  | 0, _, _, h, _ => by
    have h' : _ = X.W := h
    rw [h']; exact Below.refl _ _
  | 1, _, _, h, _ => by obtain ⟨_, _, _, _, _, h⟩ := h; exact h
  | _ + 2, _, _, _, h => absurd h (by omega)
theorem NLB.chain : chainG (opsOf 7 Tryz.f21) NLB.acts = true := by kernel_rfl
theorem NLB.nodup : NLB.acts.Nodup := by decide
def NLB.ol : List (Option Nat × Op × Option (Nat × Bool)) := [
 (some 24, .fieldAddr 25 (.tmp 3) 0, none),
 (some 25, .load 23 (.tmp 24), none),
 (some 26, .fieldAddr 25 (.tmp 3) 0, none),
 (some 27, .load 23 (.tmp 26), none),
 (some 28, .fieldAddr 25 (.tmp 3) 0, none),
 (some 29, .load 23 (.tmp 28), none),
 (some 30, .call { callee := .builtin .len, args := #[(.tmp 29)], argTypes := #[23] }, none),
 (some 31, .binOp .sub 3 (.tmp 30) (.const (.int .i64 1)) 3, none),
 (some 32, .indexAddr 23 (.tmp 27) (.tmp 31), none),
 (some 33, .load 34 (.tmp 32), none),
 (some 34, .buildSlice 23 1 #[(0, (.tmp 33))], none),
 (some 35, .call { callee := .builtin .append, args := #[(.tmp 25), (.tmp 34)], argTypes := #[23, 23] }, none),
 (some 36, .fieldAddr 25 (.tmp 3) 0, none),
 (none, .store 23 (.tmp 36) (.tmp 35), none)]
theorem NLB.isL : (opsOf 7 Tryz.f21).toList.map tri = NLB.ol := by kernel_rfl
theorem NLB.ini {X : NLB} (ok : NLBOk X) : ∀ n ∈ [3], X.a0.eval (.tmp n) = X.val0 n := by
 simp only [List.forall_mem_cons]
 exact ⟨ok.e3, List.forall_mem_nil _⟩
abbrev NLB.St (X : NLB) (Q : PQ) (i : Nat) : Prop := StepG (opsOf 7 Tryz.f21) NLB.acts NLB.av X.val0 X.Wd X.a0 Q i
theorem NLB.plain (X : NLB) (ok : NLBOk X) {Q : PQ} : ∀ i ∈ [0, 2, 4, 6, 7, 8, 12], NLB.St X Q i := by
 simp only [List.forall_mem_cons]
 refine ⟨?_, ?_, ?_, ?_, ?_, ?_, ?_, List.forall_mem_nil _⟩
 all_goals
  refine st_plain NLB.isL (NLB.ini ok) ok.sz rfl (by kernel_rfl) ?_
  intro γ w n o hW hop
  unfold execOp
  rw [hop]
  simp [envR, valG, NLB.av, NLB.val0, ok.wk, ok.hk, go_sem]
theorem NLB.s1 (X : NLB) (ok : NLBOk X) {Q : PQ} : NLB.St X Q 1 := by
 intro γ listed a w o hF hC hW h1 ho h2
 obtain ⟨hd, hop, hg⟩ := fieldsL NLB.isL (i := 1) rfl ho
 have e24 : a.eval (.tmp 24) = .pointer (some ⟨X.L, 0, none⟩) := known hF ho h2 (NLB.ini ok) ok.sz (by kernel_rfl)
 have hph := phase_leG (acts := NLB.acts) (m := 1) (x := 11) hC (unl (hF.lt ho) h1) rfl [1] (by kernel_rfl) (by decide)
 have hWW := hW
 generalize phase listed NLB.acts = n at hph hWW
 have hk := NLB.gr hWW (by omega)
 have h0 : w.cell? ⟨X.L, 0, none⟩ = some (.slice (some ⟨X.gb, X.go, none⟩) X.m X.cc) := ((bcell hk).1 _ _ ok.hL).trans ok.c0
 refine st_pureG hF hC hW ho h2 (by decide) hd hg rfl ?_
 show _ = Result.ok (Next.value (.slice (some ⟨X.gb, X.go, none⟩) X.m X.cc)) w
 generalize a.eval = ρ at e24 ⊢
 unfold execOp
 rw [hop]
 simp [e24, h0, go_sem]
theorem NLB.s3 (X : NLB) (ok : NLBOk X) {Q : PQ} : NLB.St X Q 3 := by
 intro γ listed a w o hF hC hW h1 ho h2
 obtain ⟨hd, hop, hg⟩ := fieldsL NLB.isL (i := 3) rfl ho
 have e26 : a.eval (.tmp 26) = .pointer (some ⟨X.L, 0, none⟩) := known hF ho h2 (NLB.ini ok) ok.sz (by kernel_rfl)
 have hph := phase_leG (acts := NLB.acts) (m := 0) (x := 10) hC (unl (hF.lt ho) h1) rfl [9, 8, 3] (by kernel_rfl) (by decide)
 have hWW := hW
 generalize phase listed NLB.acts = n at hph hWW
 have hk := NLB.gr hWW (by omega)
 have h0 : w.cell? ⟨X.L, 0, none⟩ = some (.slice (some ⟨X.gb, X.go, none⟩) X.m X.cc) := ((bcell hk).1 _ _ ok.hL).trans ok.c0
 refine st_pureG hF hC hW ho h2 (by decide) hd hg rfl ?_
 show _ = Result.ok (Next.value (.slice (some ⟨X.gb, X.go, none⟩) X.m X.cc)) w
 generalize a.eval = ρ at e26 ⊢
 unfold execOp
 rw [hop]
 simp [e26, h0, go_sem]
theorem NLB.s5 (X : NLB) (ok : NLBOk X) {Q : PQ} : NLB.St X Q 5 := by
 intro γ listed a w o hF hC hW h1 ho h2
 obtain ⟨hd, hop, hg⟩ := fieldsL NLB.isL (i := 5) rfl ho
 have e28 : a.eval (.tmp 28) = .pointer (some ⟨X.L, 0, none⟩) := known hF ho h2 (NLB.ini ok) ok.sz (by kernel_rfl)
 have hph := phase_leG (acts := NLB.acts) (m := 0) (x := 10) hC (unl (hF.lt ho) h1) rfl [9, 8, 7, 6, 5] (by kernel_rfl) (by decide)
 have hWW := hW
 generalize phase listed NLB.acts = n at hph hWW
 have hk := NLB.gr hWW (by omega)
 have h0 : w.cell? ⟨X.L, 0, none⟩ = some (.slice (some ⟨X.gb, X.go, none⟩) X.m X.cc) := ((bcell hk).1 _ _ ok.hL).trans ok.c0
 refine st_pureG hF hC hW ho h2 (by decide) hd hg rfl ?_
 show _ = Result.ok (Next.value (.slice (some ⟨X.gb, X.go, none⟩) X.m X.cc)) w
 generalize a.eval = ρ at e28 ⊢
 unfold execOp
 rw [hop]
 simp [e28, h0, go_sem]
theorem NLB.s9 (X : NLB) (ok : NLBOk X) {Q : PQ} : NLB.St X Q 9 := by
 intro γ listed a w o hF hC hW h1 ho h2
 obtain ⟨hd, hop, hg⟩ := fieldsL NLB.isL (i := 9) rfl ho
 have e32 : a.eval (.tmp 32) = .pointer (some ⟨X.gb, X.go + X.k * 2, none⟩) := known hF ho h2 (NLB.ini ok) ok.sz (by kernel_rfl)
 have hph := phase_leG (acts := NLB.acts) (m := 0) (x := 10) hC (unl (hF.lt ho) h1) rfl [9] (by kernel_rfl) (by decide)
 have hWW := hW
 generalize phase listed NLB.acts = n at hph hWW
 obtain rfl : n = 0 := by omega
 have hk : w = X.W := hWW
 have h0 := ok.cx
 have h1 := ok.cy
 rw [← hk] at h0 h1
 refine st_pureG hF hC hW ho h2 (by decide) hd hg rfl ?_
 show _ = Result.ok (Next.value (.agg #[.int .i64 X.x, .int .i64 X.y])) w
 generalize a.eval = ρ at e32 ⊢
 unfold execOp
 rw [hop]
 simp [e32, h0, h1, go_sem]
theorem NLB.s10 (X : NLB) (ok : NLBOk X) {Q : PQ} : NLB.St X Q 10 := by
 intro γ listed a w o hF hC hW h1 ho h2
 obtain ⟨hd, hop, hg⟩ := fieldsL NLB.isL (i := 10) rfl ho
 have e33 : a.eval (.tmp 33) = .agg #[.int .i64 X.x, .int .i64 X.y] := known hF ho h2 (NLB.ini ok) ok.sz (by kernel_rfl)
 have hu := unl (hF.lt ho) h1
 refine st_actG (k := 0) NLB.chain NLB.nodup rfl hF hC hW h1 ho h2 (Or.inr ⟨34, hd, rfl⟩) (injG (by kernel_rfl) hu) hg ?_
 intro hW0 K hK
 have hw0 : w = X.W := hW0
 have hr : (execOp a.eval o).run Tryz.prog w = .ok (.value (.slice (some ⟨w.heap.size, 0, none⟩) 1 1)) (w.alloc (.cells #[.int .i64 X.x, .int .i64 X.y] 34)) := by
  generalize a.eval = ρ at e33 ⊢
  unfold execOp
  rw [hop]
  simp [e33, go_sem]
 unfold Oper.wp
 rw [hr]
 exact hK _ _ ⟨(X.x, X.y), w.heap.size, rfl, rfl, ⟨by simp, by simp⟩, by rw [hw0]; exact (Below.refl _ _).alloc (Nat.le_refl _) _⟩
theorem NLB.s11 (X : NLB) (ok : NLBOk X) {Q : PQ} : NLB.St X Q 11 := by
 intro γ listed a w o hF hC hW h1 ho h2
 obtain ⟨hd, hop, hg⟩ := fieldsL NLB.isL (i := 11) rfl ho
 have e25 : a.eval (.tmp 25) = .slice (some ⟨X.gb, X.go, none⟩) X.m X.cc := known hF ho h2 (NLB.ini ok) ok.sz (by kernel_rfl)
 have e34 : a.eval (.tmp 34) = γ 0 := known hF ho h2 (NLB.ini ok) ok.sz (by kernel_rfl)
 have hu := unl (hF.lt ho) h1
 refine st_actG (k := 1) NLB.chain NLB.nodup rfl hF hC hW h1 ho h2 (Or.inr ⟨35, hd, rfl⟩) (injG (by kernel_rfl) hu) hg ?_
 intro hW0 K hK
 obtain ⟨q, g, hq, g2, ⟨q0, q1⟩, hg1⟩ := hW0
 rw [g2] at e34
 have hz := (Below.size hg1)
 refine wp_q 34 23 23 (.int .i64 0) (.int .i64 0) 16 under_pts under_pts Tryz.info34 (by decide) rfl w (.tmp 25) (.tmp 34) hop (X.L + 1) (.slice (some ⟨X.gb, X.go, none⟩) X.m X.cc) (vP X.l) (vP [q]) e25 (OwnP.nw ok.own hg1) g 0 1 1 rfl e34 (fun i hi => by
  have : i = 0 := by simp [vP] at hi; omega
  subst this
  exact ⟨by simpa [vP, vvAt] using q0, by simpa [vP, vvAt] using q1⟩) (vP_one _) (by simp [vP]) (by rw [vP_len]; have := ok.hl; simp [vP]; omega) (by have := ok.hL; omega) ?_
 intro g' c' w' h3 h4
 rw [vP_len, ← vP_append] at h3
 rw [vP_len] at h4 ⊢
 exact hK _ _ ⟨q, g', c', w, hq, rfl, h3, h4, hg1⟩
theorem NLB.s13 (X : NLB) (ok : NLBOk X) {Q : PQ} : NLB.St X Q 13 := by
 intro γ listed a w o hF hC hW h1 ho h2
 obtain ⟨hd, hop, hg⟩ := fieldsL NLB.isL (i := 13) rfl ho
 have e36 : a.eval (.tmp 36) = .pointer (some ⟨X.L, 0, none⟩) := known hF ho h2 (NLB.ini ok) ok.sz (by kernel_rfl)
 have e35 : a.eval (.tmp 35) = γ 1 := known hF ho h2 (NLB.ini ok) ok.sz (by kernel_rfl)
 have hu := unl (hF.lt ho) h1
 refine st_actG (k := 2) NLB.chain NLB.nodup rfl hF hC hW h1 ho h2 (Or.inl hd) (injG (by kernel_rfl) hu) hg ?_
 intro hW0 K hK
 obtain ⟨q, g, c, w1, hq, hv, h3, h4, hg1⟩ := hW0
 have hlt1 : X.L < w1.heap.size := Nat.lt_of_lt_of_le ok.hL (Below.size hg1)
 have hne : X.L ≠ X.B := by have := ok.hB; omega
 have hvn : Value.ownBlock (.slice (some ⟨X.gb, X.go, none⟩) X.m X.cc) ≠ some X.L := fun e => by have := (OwnQ.lt ok.own _ e).1; omega
 have z0 : w.cell? ⟨X.L, 0, none⟩ = some (.slice (some ⟨X.gb, X.go, none⟩) X.m X.cc) := (Ext.cell h4 hlt1 hvn 0).trans (((bcell hg1).1 _ _ ok.hL).trans ok.c0)
 have zf : w.frozen? ⟨X.L, 0, none⟩ = false := (World.frozen?_of_block (a := ⟨X.L, 0, none⟩) (h4.1.block X.L hlt1 (fun e => hvn e.symm))).trans (((bcell hg1).2 _ _ ok.hL).trans (ok.fz 0))
 have e35' := e35
 rw [hv] at e35
 have hr : (execOp a.eval o).run Tryz.prog w = .ok .skip (w.setCell ⟨X.L, 0, none⟩ (.slice (some ⟨g, 0, none⟩) (X.l.length + 1) c)) := by
  generalize a.eval = ρ at e36 e35 ⊢
  unfold execOp
  rw [hop]
  simp [e36, e35, z0, zf, go_sem]
 unfold Oper.wp
 rw [hr]
 rw [hv] at h3 h4
 exact hK _ _ ⟨q, _, w1, w, hq, h3, h4, hg1, rfl⟩
theorem NLB.size : (opsOf 7 Tryz.f21).size = 14 := by kernel_rfl
theorem NLB.rest (X : NLB) (ok : NLBOk X) {Q : PQ} : ∀ i ∈ [1, 3, 5, 9, 10, 11, 13], NLB.St X Q i := by
 simp only [List.forall_mem_cons]
 exact ⟨NLB.s1 X ok,
  NLB.s3 X ok,
  NLB.s5 X ok,
  NLB.s9 X ok,
  NLB.s10 X ok,
  NLB.s11 X ok,
  NLB.s13 X ok, List.forall_mem_nil _⟩
theorem NLB.steps (X : NLB) (ok : NLBOk X) {Q : PQ} (i : Nat) (hi : i < (opsOf 7 Tryz.f21).size) : NLB.St X Q i := by
 rw [NLB.size] at hi
 rcases (by decide : ∀ i, i < 14 → i ∈ [0, 2, 4, 6, 7, 8, 12] ∨ i ∈ [1, 3, 5, 9, 10, 11, 13]) i hi with h | h
 · exact NLB.plain X ok i h
 · exact NLB.rest X ok i h
theorem NLB.run (X : NLB) (ok : NLBOk X) {Q : PQ} (w : World) (h0 : X.Wd 0 (fun _ => undef) w.drew) (hend : ∀ (γ : Nat → Value) w', X.Wd 3 γ w' → Q .normal (((((((((((((X.a0.put (some 24) (.pointer (some ⟨X.L, 0, none⟩))).put (some 25) (.slice (some ⟨X.gb, X.go, none⟩) X.m X.cc)).put (some 26) (.pointer (some ⟨X.L, 0, none⟩))).put (some 27) (.slice (some ⟨X.gb, X.go, none⟩) X.m X.cc)).put (some 28) (.pointer (some ⟨X.L, 0, none⟩))).put (some 29) (.slice (some ⟨X.gb, X.go, none⟩) X.m X.cc)).put (some 30) (.int .i64 (X.m : Int))).put (some 31) (.int .i64 (X.k : Int))).put (some 32) (.pointer (some ⟨X.gb, X.go + X.k * 2, none⟩))).put (some 33) (.agg #[.int .i64 X.x, .int .i64 X.y])).put (some 34) (γ 0)).put (some 35) (γ 1)).put (some 36) (.pointer (some ⟨X.L, 0, none⟩))) w') : (Code.region 7 (opsOf 7 Tryz.f21) true).wp Tryz.prog Q X.a0 w := by
 refine reg_act (acts := NLB.acts) (av := NLB.av) (val0 := X.val0) (Wd := X.Wd) (by kernel_rfl) (by kernel_rfl) (by rw [NLB.size]; decide) (fun i hi => NLB.steps X ok i hi) _ h0 ?_
 intro γ w' h
 exact end_at (hend γ w' h) (by kernel_rfl)
theorem Gr.alike {B : Nat} {a b a' b' : World} (h : Gr B a b) (h1 : Nw a' a) (h2 : Nw b b') (hs : a'.heap.size = a.heap.size) : Gr B a' b' := (Gr.of_nw h1).trans (h.trans (Gr.of_nw h2))
theorem nw_drw (w : World) : Nw w w.drew := ⟨rfl, rfl, rfl, Nat.le_refl _, fun _ _ => rfl⟩
structure NlS (B R : Nat) (w wr : World) (ca : Option Addr) (len cap n : Nat) (v : Value) (cl : Bool) (l : List Pnt) : Prop where
 c0 : wr.cell? ⟨R + 1, 0, none⟩ = some v
 c1 : wr.cell? ⟨R + 1, 1, none⟩ = some (.bool cl)
 fz : ∀ o, wr.frozen? ⟨R + 1, o, none⟩ = false
 own : OwnP wr (R + 2) v l
 cur : Cur wr B ca len cap n
 gr : Gr B w wr
 z0 : wr.cell? ⟨R, 0, none⟩ = some (.slice none 0 0)
 z1 : wr.cell? ⟨R, 1, none⟩ = some (.bool false)
 zf : ∀ o, wr.frozen? ⟨R, o, none⟩ = false
 lt : R + 1 < wr.heap.size
theorem Cur.nwN {w w1 : World} {B : Nat} {ca : Option Addr} {len cap n : Nat} (h : Cur w B ca len cap n) (k : Nw w w1) : Cur w1 B ca len cap n := by
 obtain ⟨k0, sd, q1, q2, q3, c0, c1, c2, hf, hBB⟩ := h
 exact ⟨k0, sd, q1, q2, q3, ((bcell k).1 _ _ hBB).trans c0, ((bcell k).1 _ _ hBB).trans c1, ((bcell k).1 _ _ hBB).trans c2, fun o => ((bcell k).2 _ _ hBB).trans (hf o), Nat.lt_of_lt_of_le hBB (Below.size k)⟩
theorem NlS.go {B R : Nat} {w wr w2 : World} {ca : Option Addr} {len cap n n' : Nat} {v : Value} {cl : Bool} {l : List Pnt} (h : NlS B R w wr ca len cap n v cl l) (hB : B < R) (k : Gr B wr w2) (hc : Cur w2 B ca len cap n') : NlS B R w w2 ca len cap n' v cl l := by
 have hlt := h.lt
 exact ⟨(k.cell hlt (by omega) 0).trans h.c0, (k.cell hlt (by omega) 1).trans h.c1, fun o => (k.frozen hlt (by omega) o).trans (h.fz o), h.own.gr k (by omega), hc, h.gr.trans k,
  (k.cell (by omega) (by omega) 0).trans h.z0, (k.cell (by omega) (by omega) 1).trans h.z1, fun o => (k.frozen (by omega) (by omega) o).trans (h.zf o), Nat.lt_of_lt_of_le hlt k.size⟩
theorem NlS.put {B R : Nat} {w wr w2 : World} {ca : Option Addr} {len cap n : Nat} {v v' : Value} {cl : Bool} {l l' : List Pnt} (h : NlS B R w wr ca len cap n v cl l) (hR : w.heap.size = R) (hB : B < R) (ho : OwnP w2 (R + 2) v' l') (x : Ext v v' wr w2) :
  NlS B R w (w2.setCell ⟨R + 1, 0, none⟩ v') ca len cap n v' cl l' := by
 have hlt := h.lt
 have hlo : ∀ g, v.ownBlock = some g → R + 2 ≤ g := fun g e => (OwnQ.lt h.own g e).1
 have hn1 : v.ownBlock ≠ some (R + 1) := fun e => by have := hlo _ e; omega
 have hn0 : v.ownBlock ≠ some R := fun e => by have := hlo _ e; omega
 have hnB : v.ownBlock ≠ some B := fun e => by have := hlo _ e; omega
 have hm1 : v'.ownBlock ≠ some (R + 1) := fun e => by have := (OwnQ.lt ho _ e).1; omega
 have fr : ∀ g o, g < wr.heap.size → v.ownBlock ≠ some g → w2.frozen? ⟨g, o, none⟩ = wr.frozen? ⟨g, o, none⟩ := fun g o hg hne => World.frozen?_of_block (a := ⟨g, o, none⟩) (x.1.block g hg (fun e => hne e.symm))
 refine ⟨World.cell?_setCell_same w2 ⟨R + 1, 0, none⟩ v' ((x.cell hlt hn1 0).trans h.c0), (World.cell?_setCell_other _ _ _ _ (by simp)).trans ((x.cell hlt hn1 1).trans h.c1), fun o => by rw [World.frozen?_setCell, fr _ o hlt hn1]; exact h.fz o,
  OwnQ.far ho (R + 1) 0 v' hm1, ((h.cur.ext x hnB).set (by omega) _ _), (h.gr.ext x (fun g e => by have := hlo g e; omega)).set (by omega) _ _, ?_, ?_, fun o => by rw [World.frozen?_setCell, fr _ o (by omega) hn0]; exact h.zf o, ?_⟩
 ·exact (World.cell?_setCell_other _ _ _ _ (fun e => by injection e; omega)).trans ((x.cell (by omega) hn0 0).trans h.z0)
 ·exact (World.cell?_setCell_other _ _ _ _ (fun e => by injection e; omega)).trans ((x.cell (by omega) hn0 1).trans h.z1)
 ·have := x.size
  simp [World.setCell]; omega
set_option maxRecDepth 100000 in
set_option maxHeartbeats 8000000 in
theorem nearLine_any (w : World) (B : Nat) (ca : Option Addr) (len cap n : Nat) (hl : len ≤ 9223372036854775807) (hn : n ≤ 100000) (hc : Cur w B ca len cap n) (hd : Code w B ca len) :
  Calls Tryz.prog 21 #[.pointer (some ⟨B, 0, none⟩)] w fun e w' => ∃ (v : Value) (cl : Bool) (l : List Pnt), e = .returned (.agg #[v, .bool cl]) ∧ OwnP w' w.heap.size v l ∧ l.length ≤ 10 ∧ Cur w' B ca len cap (n + 100) ∧ Gr B w w' := by
 have hB := hc.lt
 obtain ⟨R, hR⟩ : ∃ R, w.heap.size = R := ⟨_, rfl⟩
 obtain ⟨W0, hW0⟩ : ∃ W0, w.alloc (.cells #[.slice none 0 0, .bool false] 25) = W0 := ⟨_, rfl⟩
 have hs0 : W0.heap.size = R + 1 := by rw [← hW0, ← hR]; simp
 have za : W0.cell? ⟨R, 0, none⟩ = some (.slice none 0 0) := by rw [← hW0, ← hR]; simp
 have zb : W0.cell? ⟨R, 1, none⟩ = some (.bool false) := by rw [← hW0, ← hR]; simp
 have zc : ∀ o, W0.frozen? ⟨R, o, none⟩ = false := fun o => by rw [← hW0, ← hR]; exact World.frozen?_alloc_at _ _ _ _ rfl
 rw [hR] at hB
 have HD : Hid (∀ w', Gr B w w' → Code w' B ca len) := fun w' g => Code.below hd (g.below (by omega))
 have C0 : Hid (Cur W0 B ca len cap n) := by show Cur _ _ _ _ _ _; rw [← hW0]; exact hc.alloc _ _
 have G0 : Hid (Gr B w W0) := by show Gr _ _ _; rw [← hW0]; exact (Gr.refl B w).alloc _
 have HW0 : Hid (_ = W0) := hW0
 have HR : Hid (w.heap.size = R) := hR
 have HS : Hid (∀ (w1 : World) (b : Bool), Sel B W0 w1 → Cur w1 B ca len cap (n + 2) → w1.heap.size = R + 1 ∧ NlS B R w (w1.alloc (.cells #[.slice none 0 0, .bool b] 25)) ca len cap (n + 2) (.slice none 0 0) b []) := fun w1 b k c => by
  have g1 : Gr B W0 w1 := Gr.of_sel k
  have hs1 : w1.heap.size = R + 1 := by rw [k.size, hs0]
  have e : ∀ o (x : Value), w1.cell? ⟨R, o, none⟩ = some x → (w1.alloc (.cells #[.slice none 0 0, .bool b] 25)).cell? ⟨R, o, none⟩ = some x := fun o x h => (Below.cell ((Below.refl w1.heap.size w1).alloc (Nat.le_refl _) _) (p := ⟨R, o, none⟩) (by show R < _; omega)).trans h
  have ff : ∀ o, (w1.alloc (.cells #[.slice none 0 0, .bool b] 25)).frozen? ⟨R, o, none⟩ = w1.frozen? ⟨R, o, none⟩ := fun o => (Gr.of_nw (B := B) ((Below.refl w1.heap.size w1).alloc (Nat.le_refl _) _)).frozen (by omega) (by omega) o
  refine ⟨hs1, by rw [← hs1]; simp, by rw [← hs1]; simp, fun o => by rw [← hs1]; exact World.frozen?_alloc_at _ _ _ _ rfl, OwnP.nil _ _, c.alloc _ _, (G0.out.trans g1).alloc _, ?_, ?_, fun o => (ff o).trans ((g1.frozen (by omega) (by omega) o).trans (zc o)), by simp; omega⟩
  ·exact e 0 _ ((g1.cell (by omega) (by omega) 0).trans za)
  ·exact e 1 _ ((g1.cell (by omega) (by omega) 1).trans zb)
 clear hc hd hW0 za zb zc hs0 hR
 go_enter Tryz.func21, Tryz.ntmps21
 go_wp2_with fail
 rw [HW0.out, HR.out]
 refine (one_any W0 B ca len cap n 3 hl (by omega) (by omega) (by omega) C0.out (HD.out _ G0.out)).mono ?_
 rintro e w1 ⟨cl, rfl, hc1, hb1⟩
 obtain ⟨hs1, S1⟩ := HS.out w1 cl hb1 hc1
 obtain ⟨W1, hW1⟩ : ∃ W1, w1.alloc (.cells #[.slice none 0 0, .bool cl] 25) = W1 := ⟨_, rfl⟩
 rw [hW1] at S1
 have HS1 : Hid (w1.heap.size = R + 1) := hs1
 have T1 : Hid (NlS B R w W1 ca len cap (n + 2) (.slice none 0 0) cl []) := S1
 have HW1 : Hid (_ = W1) := hW1
 clear hc1 hb1 C0 HS hs1 S1 hW1 G0 HW0
 go_wp2_with fail
 rw [HW1.out, HS1.out]
 refine (pick_any W1 B ca len cap _ 5 hl (by omega) (by omega) (by omega) T1.out.cur (HD.out _ T1.out.gr)).mono ?_
 rintro e w2 ⟨x, rfl, x0, x1, hc2, hb2⟩
 obtain ⟨X, rfl⟩ := Int.eq_ofNat_of_zero_le x0
 have T2 : Hid (NlS B R w w2 ca len cap (n + 4) (.slice none 0 0) cl []) := T1.out.go hB (Gr.of_sel hb2) hc2
 clear hc2 hb2 T1 x0 HW1 HS1
 go_wp2
 go_loopw [4] (fun u wr => ∃ (k j : Nat) (v : Value) (l : List Pnt), u = .int .i64 (k : Int) ∧ j + k ≤ 5 ∧ l.length ≤ 2 * j ∧ NlS B R w wr ca len cap (n + 4 + 8 * j) v cl l) (fun u _ => (intOf u).toNat)
 case atStart => exact ⟨1 + X, 0, _, [], by go_num, by omega, by simp, T2.out⟩
 case round =>
  clear T2 x1
  obtain ⟨k, j, v, l, rfl, hjk, hll, hs⟩ := hrel
  have T3 : Hid (NlS B R w wr ca len cap (n + 4 + 8 * j) v cl l) := hs
  clear hs
  by_cases hk0 : 0 < k
  ·have dk : decide ((0 : Int) < (k : Int)) = true := by simp; omega
   obtain ⟨k2, hk2⟩ : ∃ k2, k = k2 + 1 := ⟨k - 1, by omega⟩
   subst hk2
   go_wp2_with fail
   refine NLA.run ⟨B, R + 1, ca, len, cap, n + 4 + 8 * j, v, l, wr.drew, _⟩ ⟨by show B < R + 1; omega, T3.out.own.nw (nw_drw _), by show l.length ≤ _; omega, T3.out.lt, T3.out.c0, T3.out.fz, fun w' g => HD.out _ (T3.out.gr.trans (Gr.alike g (nw_drw _) (Below.refl _ _) rfl)), hl, by show n + 4 + 8 * j ≤ _; omega, rfl, rfl, rfl⟩ wr ⟨Gr.refl _ _, by exact T3.out.cur⟩ ?_
   rintro γ w7 ⟨q, v9, w8, w9, h3, h4, hg1, hc1, rfl⟩
   simp only at h3 h4 hg1 hc1
   have T4 : Hid (NlS B R w (w9.setCell ⟨R + 1, 0, none⟩ v9) ca len cap (n + 4 + 8 * j + 6) v9 cl (l ++ [q])) := (T3.out.go hB (Gr.alike hg1 (nw_drw _) (Below.refl _ _) rfl) hc1).put HR.out hB h3 h4
   clear h3 h4 hg1 hc1 T3
   simp only [Act.put, List.setIfInBounds_toArray, List.set_cons_zero, List.set_cons_succ]
   generalize γ 0 = g0 at *
   generalize γ 1 = g1 at *
   generalize γ 2 = g2 at *
   generalize w9.setCell ⟨R + 1, 0, none⟩ v9 = w10 at *
   go_wp2_with fail
   refine (one_any w10 B ca len cap _ 8 hl (by omega) (by omega) (by omega) T4.out.cur (HD.out _ T4.out.gr)).mono ?_
   rintro e w11 ⟨o, rfl, hc5, hb5⟩
   have T5 : Hid (NlS B R w w11 ca len cap (n + 4 + 8 * (j + 1)) v9 cl (l ++ [q])) := T4.out.go hB (Gr.of_sel hb5) hc5
   clear hc5 hb5 T4
   cases o with
   | false =>
    go_wp2
    go_roundw
    case rel => exact ⟨k2, j + 1, v9, l ++ [q], by go_num, by omega, by rw [List.length_append]; simp; omega, T5.out⟩
    case measure => simp [intOf]
   | true =>
    have hlen : (l ++ [q]).length = l.length + 1 := by simp
    rcases OwnQ.form T5.out.own with ⟨_, e⟩ | ⟨g, c, hv, _, _, _, _, hcell, _⟩
    ·have := congrArg List.length e; rw [vP_len, hlen] at this; simp at this
    ·rw [vP_len, hlen] at hv hcell
     subst hv
     obtain ⟨cx, cy⟩ := hcell l.length (by omega)
     rw [vP_at _ _ (by rw [hlen]; omega)] at cx cy
     generalize ptAt (l ++ [q]) l.length = p at *
     obtain ⟨m, hm⟩ : ∃ m, l.length + 1 = m := ⟨_, rfl⟩
     have HM : Hid (l.length + 1 = m) := hm
     rw [hm] at hlen
     rw [hm] at T5
     have wk : IntKind.i64.wrap ((m : Int) - 1) = (l.length : Int) := by rw [IntKind.wrap_i64]; omega
     go_wp2_with fail
     refine NLB.run ⟨B, R + 1, g, 0, m, l.length, c, p.1, p.2, l ++ [q], w11.drew, _⟩ ⟨by show B < R + 1; omega, T5.out.own.nw (nw_drw _), by show (l ++ [q]).length ≤ _; omega, T5.out.lt, T5.out.c0, T5.out.fz, hlen, by show l.length < m; omega, wk, by show _ = some _; rw [Nat.zero_add]; exact cx, by show _ = some _; rw [Nat.zero_add]; exact cy, rfl, rfl⟩ w11 rfl ?_
     rintro γ w12 ⟨q2, v13, w13, w14, _, h3, h4, hg1, rfl⟩
     simp only at h3 h4 hg1
     have hgn : Nw w11 w13 := Nw.trans (nw_drw _) hg1
     have T6 : Hid (NlS B R w (w14.setCell ⟨R + 1, 0, none⟩ v13) ca len cap (n + 4 + 8 * (j + 1)) v13 cl (l ++ [q] ++ [q2])) := by
      exact (T5.out.go hB (Gr.of_nw hgn) (T5.out.cur.nwN hgn)).put HR.out hB h3 h4
     clear h3 h4 hg1 T5 cx cy hcell wk
     simp only [Act.put, List.setIfInBounds_toArray, List.set_cons_zero, List.set_cons_succ]
     generalize γ 0 = g0 at *
     generalize γ 1 = g1 at *
     generalize w14.setCell ⟨R + 1, 0, none⟩ v13 = w15 at *
     go_wp2
     go_roundw
     case rel => exact ⟨k2, j + 1, v13, l ++ [q] ++ [q2], by go_num, by omega, by rw [List.length_append, hlen]; simp; omega, T6.out⟩
     case measure => simp [intOf]
  ·have hk1 : k = 0 := by omega
   subst hk1
   obtain ⟨va, vc, hv, _⟩ := T3.out.own.pts
   subst hv
   have q0 := T3.out.c0
   have q1 := T3.out.c1
   have r0 := T3.out.z0
   have r1 := T3.out.z1
   have zf := T3.out.zf
   obtain ⟨y0, y1⟩ := set2 wr R (.slice va l.length vc) (.bool cl) r0 r1
   have hll2 : l.length ≤ 10 := by omega
   go_wp2
   refine bodyPost_ret (v := .agg #[.slice va l.length vc, .bool cl]) (by simp [results, Tryz.results21, go_sem, y0, y1]) rfl ⟨_, cl, l, rfl, ?_, hll2, ?_, ?_⟩
   ·exact OwnQ.far (OwnQ.far (OwnQ.base T3.out.own (by rw [HR.out]; omega)) R 0 _ (fun e => by have := (OwnQ.lt T3.out.own _ e).1; omega)) R 1 _ (fun e => by have := (OwnQ.lt T3.out.own _ e).1; omega)
   ·exact Cur.mono (m := n + 100) ((T3.out.cur.set (by omega) _ _).set (by omega) _ _) (by omega)
   ·exact (T3.out.gr.set (by rw [HR.out]; omega) _ _).set (by rw [HR.out]; omega) _ _
theorem Ins.gr {w w' : World} {B W : Nat} {v : Value} {l : List Int} (h : Ins w W v l) (k : Gr B w w') (hB : B < W) : Ins w' W v l :=
 World.ownsRow.kept h k (Or.inr (fun e => by have := (World.ownsRow.lt h B e).1; omega))
structure DhO (B R : Nat) (w wr : World) (ca : Option Addr) (len cap n : Nat) (v : Value) (ns : List Int) : Prop where
 own : Ins wr R v ns
 cur : Cur wr B ca len cap n
 gr : Gr B w wr
theorem DhO.go {B R : Nat} {w wr w2 : World} {ca : Option Addr} {len cap n n' : Nat} {v : Value} {ns : List Int} (h : DhO B R w wr ca len cap n v ns) (hB : B < R) (k : Gr B wr w2) (hc : Cur w2 B ca len cap n') : DhO B R w w2 ca len cap n' v ns :=
 ⟨h.own.gr k hB, hc, h.gr.trans k⟩
theorem DhO.put {B R : Nat} {w wr w2 : World} {ca : Option Addr} {len cap n : Nat} {v v' : Value} {ns ns' : List Int} (h : DhO B R w wr ca len cap n v ns) (hR : w.heap.size = R) (hB : B < R) (o : Obj) (ho : Ins w2 R v' ns') (x : Ext v v' (wr.alloc o) w2) : DhO B R w w2 ca len cap n v' ns' := by
 have hlo : ∀ g, v.ownBlock = some g → R ≤ g := fun g e => (World.ownsRow.lt h.own g e).1
 obtain ⟨k, sd, q1, q2, q3, c0, c1, c2, hf, hBB⟩ := h.cur
 have nw : Nw wr (wr.alloc o) := (Below.refl _ _).alloc (Nat.le_refl _) _
 have hc : Cur (wr.alloc o) B ca len cap n := ⟨k, sd, q1, q2, q3, ((bcell nw).1 _ _ hBB).trans c0, ((bcell nw).1 _ _ hBB).trans c1, ((bcell nw).1 _ _ hBB).trans c2, fun o => ((bcell nw).2 _ _ hBB).trans (hf o), Nat.lt_of_lt_of_le hBB (Below.size nw)⟩
 exact ⟨ho, hc.ext x (fun e => by have := hlo _ e; omega), (h.gr.alloc o).ext x (fun g e => by have := hlo g e; omega)⟩
set_option maxRecDepth 100000 in
set_option maxHeartbeats 8000000 in
theorem dashOf_any (w : World) (B : Nat) (ca : Option Addr) (len cap n : Nat) (hl : len ≤ 9223372036854775807) (hn : n ≤ 100000) (hc : Cur w B ca len cap n) (hd : Code w B ca len) :
  Calls Tryz.prog 25 #[.pointer (some ⟨B, 0, none⟩)] w fun e w' => ∃ (v : Value) (ns : List Int), e = .returned v ∧ Ins w' w.heap.size v ns ∧ ns.length ≤ 9 ∧ Cur w' B ca len cap (n + 100) ∧ Gr B w w' := by
 have hB := hc.lt
 have HD : Hid (∀ w', Gr B w w' → Code w' B ca len) := fun w' g => Code.below hd (g.below (by omega))
 obtain ⟨R, hR⟩ : ∃ R, w.heap.size = R := ⟨_, rfl⟩
 rw [hR] at hB ⊢
 have HR : Hid (w.heap.size = R) := hR
 have C0 : Hid (Cur w B ca len cap n) := hc
 clear hc hd hR
 go_enter Tryz.func25, Tryz.ntmps25
 go_wp2_with fail
 refine (pick_any w B ca len cap n 4 hl (by omega) (by omega) (by omega) C0.out (HD.out _ (Gr.refl _ _))).mono ?_
 rintro e w1 ⟨x, rfl, x0, x1, hc1, hb1⟩
 obtain ⟨X, rfl⟩ := Int.eq_ofNat_of_zero_le x0
 have C1 : Hid (Cur w1 B ca len cap (n + 2)) := hc1
 have G1 : Hid (Gr B w w1) := Gr.of_sel hb1
 clear hc1 hb1 C0 x0
 go_wp2_with fail
 refine (one_any w1 B ca len cap _ 20 hl (by omega) (by omega) (by omega) C1.out (HD.out _ G1.out)).mono ?_
 rintro e w2 ⟨o, rfl, hc2, hb2⟩
 have C2 : Hid (Cur w2 B ca len cap (n + 2 + 2)) := hc2
 have G2 : Hid (Gr B w w2) := G1.out.trans (Gr.of_sel hb2)
 clear hc2 hb2 C1 G1
 cases o
 case' false =>
  have S2 : Hid (DhO B R w w2 ca len cap (n + 6 + 6 * 0) (.slice none 0 0) []) := ⟨Ins.nil _ _, C2.out.mono (by omega), G2.out⟩
  clear C2 G2
  go_wp2
  go_loopw [3, 4] (fun l u wr => ∃ (k j : Nat) (v : Value) (ns : List Int), l = v ∧ u = .int .i64 (k : Int) ∧ j + k ≤ 9 ∧ ns.length = j ∧ DhO B R w wr ca len cap (n + 6 + 6 * j) v ns) (fun _ u _ => (intOf u).toNat)
  case atStart => exact ⟨X, 0, _, [], rfl, rfl, by omega, rfl, S2.out⟩
 case' true =>
  go_wp2_with fail
  refine (pick_any w2 B ca len cap _ 2 hl (by omega) (by omega) (by omega) C2.out (HD.out _ G2.out)).mono ?_
  rintro e w3 ⟨y, rfl, y0, y1, hc3, hb3⟩
  obtain ⟨Y, rfl⟩ := Int.eq_ofNat_of_zero_le y0
  have S2 : Hid (DhO B R w w3 ca len cap (n + 6 + 6 * 0) (.slice none 0 0) []) := ⟨Ins.nil _ _, hc3.mono (by omega), G2.out.trans (Gr.of_sel hb3)⟩
  clear C2 G2 hc3 hb3 y0
  go_wp2
  go_loopw [3, 4] (fun l u wr => ∃ (k j : Nat) (v : Value) (ns : List Int), l = v ∧ u = .int .i64 (k : Int) ∧ j + k ≤ 9 ∧ ns.length = j ∧ DhO B R w wr ca len cap (n + 6 + 6 * j) v ns) (fun _ u _ => (intOf u).toNat)
  case atStart => exact ⟨8 + Y, 0, _, [], rfl, by go_num, by omega, rfl, S2.out⟩
  clear y1
 all_goals
  clear S2 x1
  obtain ⟨k, j, v, ns, hv, rfl, hjk, hnl, hs⟩ := hrel
  have hv2 := hv.symm
  clear hv
  subst hv2
  have T : Hid (DhO B R w wr ca len cap (n + 6 + 6 * j) v ns) := hs
  have HNL : Hid (ns.length = j) := hnl
  clear hs hnl
  by_cases hk0 : 0 < k
  ·have dk : decide ((0 : Int) < (k : Int)) = true := by simp; omega
   obtain ⟨k2, hk2⟩ : ∃ k2, k = k2 + 1 := ⟨k - 1, by omega⟩
   subst hk2
   go_wp2_with fail
   refine (pick_any wr B ca len cap _ 8 hl (by omega) (by omega) (by omega) T.out.cur (HD.out _ T.out.gr)).mono ?_
   rintro e w4 ⟨d, rfl, d0, d1, hc4, hb4⟩
   have T4 : Hid (DhO B R w w4 ca len cap (n + 6 + 6 * j + 2) v ns) := T.out.go hB (Gr.of_sel hb4) hc4
   clear hc4 hb4 T
   go_wp2_with fail
   refine (one_any w4 B ca len cap _ 30 hl (by omega) (by omega) (by omega) T4.out.cur (HD.out _ T4.out.gr)).mono ?_
   rintro e w5 ⟨o, rfl, hc5, hb5⟩
   have T5 : Hid (DhO B R w w5 ca len cap (n + 6 + 6 * j + 4) v ns) := T4.out.go hB (Gr.of_sel hb5) hc5
   clear hc5 hb5 T4
   cases o
   case' false =>
    have T6 : Hid (DhO B R w w5 ca len cap (n + 6 + 6 * (j + 1)) v ns) := ⟨T5.out.own, T5.out.cur.mono (by omega), T5.out.gr⟩
    clear T5
    have HOL : Hid (ns.length ≤ 10000000) := by show _ ≤ _; have := HNL.out; omega
    have HSZ : Hid (R ≤ w5.heap.size) := by have := T6.out.gr.size; have := HR.out; show _ ≤ _; omega
    have HN : ∀ o, Hid (Nw w5 (w5.alloc o)) := fun o => (Below.refl _ _).alloc (Nat.le_refl _) o
    go_wp2_with (at_builtin; (refine wp_in _ rfl _ _ rfl R v ns (d * 32768) rfl (T6.out.own.nw (HN _).out) _ rfl (by simp) HOL.out (by have := HSZ.out; simp; omega) ?_))
   case' true =>
    go_wp2_with fail
    refine (among_litN w5 B [-1, 67108864, 67108865, 1] 3 ca len cap _ hl (by omega) (by decide) (by decide) T5.out.cur (HD.out _ T5.out.gr)).mono ?_
    rintro e w5 ⟨d, rfl, _, hc6, hg6⟩
    have T6 : Hid (DhO B R w w5 ca len cap (n + 6 + 6 * (j + 1)) v ns) := T5.out.go hB hg6 hc6
    clear hc6 hg6 T5
    have HOL : Hid (ns.length ≤ 10000000) := by show _ ≤ _; have := HNL.out; omega
    have HSZ : Hid (R ≤ w5.heap.size) := by have := T6.out.gr.size; have := HR.out; show _ ≤ _; omega
    have HN : ∀ o, Hid (Nw w5 (w5.alloc o)) := fun o => (Below.refl _ _).alloc (Nat.le_refl _) o
    go_wp2_with (at_builtin; (refine wp_in _ rfl _ _ rfl R v ns d rfl (T6.out.own.nw (HN _).out) _ rfl (by simp) HOL.out (by have := HSZ.out; simp; omega) ?_))
   all_goals
    intro v' w7 h1 h2
    have T7 : Hid (DhO B R w w7 ca len cap (n + 6 + 6 * (j + 1)) v' _) := T6.out.put HR.out hB _ h1 h2
    clear h1 h2 T6
    go_wp2
    go_roundw
    case rel => exact ⟨k2, j + 1, v', _, rfl, by go_num, by omega, by rw [List.length_append, HNL.out]; rfl, T7.out⟩
    case measure => simp [intOf]
  ·have hk1 : k = 0 := by omega
   subst hk1
   have hll : ns.length ≤ 9 := by have := HNL.out; omega
   go_wp2
   go_ret
   exact ⟨v, ns, rfl, T.out.own, hll, T.out.cur.mono (by omega), T.out.gr⟩
abbrev pnC (p : PD) (v : Value) : Array Value := #[.int .i64 p.w, .int .i64 p.j, .int .i64 p.c, v, .int .i64 p.f]
structure PnB (w : World) (b : Nat) (p : PD) (v : Value) : Prop where
 c0 : w.cell? ⟨b, 0, none⟩ = some (.int .i64 p.w)
 c1 : w.cell? ⟨b, 1, none⟩ = some (.int .i64 p.j)
 c2 : w.cell? ⟨b, 2, none⟩ = some (.int .i64 p.c)
 c3 : w.cell? ⟨b, 3, none⟩ = some v
 c4 : w.cell? ⟨b, 4, none⟩ = some (.int .i64 p.f)
 fz : ∀ o, w.frozen? ⟨b, o, none⟩ = false
theorem PnB.new (w : World) (p : PD) (v : Value) (t : TypeId) : PnB (w.alloc (.cells (pnC p v) t)) w.heap.size p v :=
 ⟨by simp, by simp, by simp, by simp, by simp, fun o => World.frozen?_alloc_at _ _ _ _ rfl⟩
theorem PnB.at {w w' : World} {b : Nat} {p : PD} {v : Value} (h : PnB w b p v) (hb : w'.heap[b]? = w.heap[b]?) : PnB w' b p v := by
 have e : ∀ o, w'.cell? ⟨b, o, none⟩ = w.cell? ⟨b, o, none⟩ := fun o => World.cell?_of_block (w := w) (a := ⟨b, o, none⟩) hb
 exact ⟨(e _).trans h.c0, (e _).trans h.c1, (e _).trans h.c2, (e _).trans h.c3, (e _).trans h.c4, fun o => (World.frozen?_of_block (w := w) (a := ⟨b, o, none⟩) hb).trans (h.fz o)⟩
theorem PnB.gr {w w' : World} {b B : Nat} {p : PD} {v : Value} (h : PnB w b p v) (k : Gr B w w') (hne : b ≠ B) : PnB w' b p v :=
 h.at (World.grownBy.block k b (World.block_lt_of_cell? w ⟨b, 0, none⟩ h.c0) (fun e => hne (Option.some.inj e)))
theorem PnB.far {w : World} {b g o : Nat} {p : PD} {v u : Value} (h : PnB w b p v) (hne : b ≠ g) : PnB (w.setCell ⟨g, o, none⟩ u) b p v :=
 h.at (Below.heap_setCell _ _ _ _ (by show b ≠ g; exact hne))
theorem PnB.lt {w : World} {b : Nat} {p : PD} {v : Value} (h : PnB w b p v) : b < w.heap.size := World.block_lt_of_cell? w ⟨b, 0, none⟩ h.c0
theorem PnB.sw {w : World} {b : Nat} {p : PD} {v : Value} (h : PnB w b p v) (x : Int) : PnB (w.setCell ⟨b, 0, none⟩ (.int .i64 x)) b ⟨x, p.j, p.c, p.f⟩ v :=
 ⟨World.cell?_setCell_same w ⟨b, 0, none⟩ _ h.c0, (World.cell?_setCell_other _ _ _ _ (by simp)).trans h.c1, (World.cell?_setCell_other _ _ _ _ (by simp)).trans h.c2, (World.cell?_setCell_other _ _ _ _ (by simp)).trans h.c3, (World.cell?_setCell_other _ _ _ _ (by simp)).trans h.c4, fun o => by rw [World.frozen?_setCell]; exact h.fz o⟩
theorem PnB.sj {w : World} {b : Nat} {p : PD} {v : Value} (h : PnB w b p v) (x : Int) : PnB (w.setCell ⟨b, 1, none⟩ (.int .i64 x)) b ⟨p.w, x, p.c, p.f⟩ v :=
 ⟨(World.cell?_setCell_other _ _ _ _ (by simp)).trans h.c0, World.cell?_setCell_same w ⟨b, 1, none⟩ _ h.c1, (World.cell?_setCell_other _ _ _ _ (by simp)).trans h.c2, (World.cell?_setCell_other _ _ _ _ (by simp)).trans h.c3, (World.cell?_setCell_other _ _ _ _ (by simp)).trans h.c4, fun o => by rw [World.frozen?_setCell]; exact h.fz o⟩
theorem PnB.sv {w : World} {b : Nat} {p : PD} {v : Value} (h : PnB w b p v) (x : Value) : PnB (w.setCell ⟨b, 3, none⟩ x) b p x :=
 ⟨(World.cell?_setCell_other _ _ _ _ (by simp)).trans h.c0, (World.cell?_setCell_other _ _ _ _ (by simp)).trans h.c1, (World.cell?_setCell_other _ _ _ _ (by simp)).trans h.c2, World.cell?_setCell_same w ⟨b, 3, none⟩ _ h.c3, (World.cell?_setCell_other _ _ _ _ (by simp)).trans h.c4, fun o => by rw [World.frozen?_setCell]; exact h.fz o⟩
theorem PnB.sf {w : World} {b : Nat} {p : PD} {v : Value} (h : PnB w b p v) (x : Int) : PnB (w.setCell ⟨b, 4, none⟩ (.int .i64 x)) b ⟨p.w, p.j, p.c, x⟩ v :=
 ⟨(World.cell?_setCell_other _ _ _ _ (by simp)).trans h.c0, (World.cell?_setCell_other _ _ _ _ (by simp)).trans h.c1, (World.cell?_setCell_other _ _ _ _ (by simp)).trans h.c2, (World.cell?_setCell_other _ _ _ _ (by simp)).trans h.c3, World.cell?_setCell_same w ⟨b, 4, none⟩ _ h.c4, fun o => by rw [World.frozen?_setCell]; exact h.fz o⟩
abbrev set5P (w : World) (b : Nat) (p : PD) (v : Value) : World := ((((w.setCell ⟨b, 0, none⟩ (.int .i64 p.w)).setCell ⟨b, 1, none⟩ (.int .i64 p.j)).setCell ⟨b, 2, none⟩ (.int .i64 p.c)).setCell ⟨b, 3, none⟩ v).setCell ⟨b, 4, none⟩ (.int .i64 p.f)
theorem PnB.set5 {w : World} {b : Nat} {p q : PD} {v u : Value} (h : PnB w b p v) : PnB (set5P w b q u) b q u := by
 have h1 := (h.sw q.w).sj q.j
 have h2 : PnB (((w.setCell ⟨b, 0, none⟩ (.int .i64 q.w)).setCell ⟨b, 1, none⟩ (.int .i64 q.j)).setCell ⟨b, 2, none⟩ (.int .i64 q.c)) b ⟨q.w, q.j, q.c, p.f⟩ v :=
  ⟨(World.cell?_setCell_other _ _ _ _ (by simp)).trans h1.c0, (World.cell?_setCell_other _ _ _ _ (by simp)).trans h1.c1, World.cell?_setCell_same _ ⟨b, 2, none⟩ _ h1.c2, (World.cell?_setCell_other _ _ _ _ (by simp)).trans h1.c3, (World.cell?_setCell_other _ _ _ _ (by simp)).trans h1.c4, fun o => by rw [World.frozen?_setCell]; exact h1.fz o⟩
 exact (h2.sv u).sf q.f
structure PnD (B R : Nat) (w wr : World) (ca : Option Addr) (len cap n : Nat) (p : PD) (v : Value) (ns : List Int) : Prop where
 box : PnB wr (R + 1) p v
 ans : PnB wr R ⟨0, 0, 0, 0⟩ (.slice none 0 0)
 own : Ins wr (R + 2) v ns
 ln : ns.length ≤ 9
 cur : Cur wr B ca len cap n
 gr : Gr B w wr
theorem PnD.go {B R : Nat} {w wr w2 : World} {ca : Option Addr} {len cap n n' : Nat} {p : PD} {v : Value} {ns : List Int} (h : PnD B R w wr ca len cap n p v ns) (hB : B < R) (k : Gr B wr w2) (hc : Cur w2 B ca len cap n') : PnD B R w w2 ca len cap n' p v ns :=
 ⟨h.box.gr k (by omega), h.ans.gr k (by omega), h.own.gr k (by omega), h.ln, hc, h.gr.trans k⟩
theorem ins_far {w : World} {B : Nat} {v : Value} {l : List Int} (h : Ins w B v l) (b o : Nat) (u : Value) (hb : b < B) : Ins (w.setCell ⟨b, o, none⟩ u) B v l :=
 World.ownsRow.kept h set_grown (Or.inr (fun e => by have := (World.ownsRow.lt h b e).1; omega))
theorem ins_shape {w : World} {B : Nat} {v : Value} {l : List Int} (h : Ins w B v l) : ∃ a c, v = .slice a l.length c := by
 rcases h.lay with ⟨h1, h2⟩ | ⟨g, c, h1, _⟩
 ·exact ⟨none, 0, by rw [h1, h2]; rfl⟩
 ·exact ⟨_, c, h1⟩
theorem ins_base {w : World} {B B' : Nat} {v : Value} {l : List Int} (h : Ins w B v l) (hB : B' ≤ B) : Ins w B' v l := by
 refine ⟨h.1, ?_⟩
 rcases h.2 with hn | ⟨g, cap, cur, h1, h2, h3⟩
 ·exact Or.inl hn
 ·exact Or.inr ⟨g, cap, cur, h1, by omega, h3⟩
theorem PnD.set {B R : Nat} {w wr : World} {ca : Option Addr} {len cap n : Nat} {p p' : PD} {v : Value} {ns : List Int} (h : PnD B R w wr ca len cap n p v ns) (hR : w.heap.size = R) (hB : B < R) (o : Nat) (u : Value) (hp : PnB (wr.setCell ⟨R + 1, o, none⟩ u) (R + 1) p' v) :
  PnD B R w (wr.setCell ⟨R + 1, o, none⟩ u) ca len cap n p' v ns :=
 ⟨hp, h.ans.far (by omega), ins_far h.own _ _ _ (by omega), h.ln, h.cur.set (by omega) _ _, h.gr.set (by omega) _ _⟩
theorem PnD.fin {B R : Nat} {w wr : World} {ca : Option Addr} {len cap n : Nat} {p : PD} {v : Value} {ns : List Int} (h : PnD B R w wr ca len cap n p v ns) (hR : w.heap.size = R) (hB : B < R) (q : PD) (u : Value) :
  Ins (set5P wr R q u) R v ns ∧ Cur (set5P wr R q u) B ca len cap n ∧ Gr B w (set5P wr R q u) :=
 ⟨ins_base (ins_far (ins_far (ins_far (ins_far (ins_far h.own _ _ _ (by omega)) _ _ _ (by omega)) _ _ _ (by omega)) _ _ _ (by omega)) _ _ _ (by omega)) (by omega),
  ((((h.cur.set (by omega) _ _).set (by omega) _ _).set (by omega) _ _).set (by omega) _ _).set (by omega) _ _, ((((h.gr.set (by omega) _ _).set (by omega) _ _).set (by omega) _ _).set (by omega) _ _).set (by omega) _ _⟩
set_option maxRecDepth 100000 in
set_option maxHeartbeats 8000000 in
theorem pen_any (w : World) (B : Nat) (ca : Option Addr) (len cap n : Nat) (hl : len ≤ 9223372036854775807) (hn : n ≤ 10000) (hc : Cur w B ca len cap n) (hd : Code w B ca len) :
  Calls Tryz.prog 40 #[.pointer (some ⟨B, 0, none⟩)] w fun e w' => ∃ (p : PD) (v : Value) (ns : List Int), e = .returned (penV p v) ∧ Ins w' w.heap.size v ns ∧ ns.length ≤ 9 ∧ Cur w' B ca len cap (n + 200) ∧ Gr B w w' := by
 have hB := hc.lt
 have HD : Hid (∀ w', Gr B w w' → Code w' B ca len) := fun w' g => Code.below hd (g.below (by omega))
 obtain ⟨R, hR⟩ : ∃ R, w.heap.size = R := ⟨_, rfl⟩
 obtain ⟨W0, hW0⟩ : ∃ W0, w.alloc (.cells #[.int .i64 0, .int .i64 0, .int .i64 0, .slice none 0 0, .int .i64 0] 36) = W0 := ⟨_, rfl⟩
 have hs0 : W0.heap.size = R + 1 := by rw [← hW0, ← hR]; simp
 have A0 : PnB W0 R ⟨0, 0, 0, 0⟩ (.slice none 0 0) := by rw [← hW0, ← hR]; exact PnB.new w ⟨0, 0, 0, 0⟩ _ _
 rw [hR] at hB ⊢
 have HR : Hid (w.heap.size = R) := hR
 have C0 : Hid (Cur W0 B ca len cap n) := by show Cur _ _ _ _ _ _; rw [← hW0]; exact hc.alloc _ _
 have G0 : Hid (Gr B w W0) := by show Gr _ _ _; rw [← hW0]; exact (Gr.refl B w).alloc _
 have HW0 : Hid (_ = W0) := hW0
 have HS : Hid (∀ (w1 : World) (p : PD), Gr B W0 w1 → w1.heap.size = W0.heap.size → Cur w1 B ca len cap (n + 8) → w1.heap.size = R + 1 ∧ PnD B R w (w1.alloc (.cells (pnC p (.slice none 0 0)) 36)) ca len cap (n + 8) p (.slice none 0 0) []) := fun w1 p k hz c => by
  have hs1 : w1.heap.size = R + 1 := by rw [hz, hs0]
  have nw : Nw w1 (w1.alloc (.cells (pnC p (.slice none 0 0)) 36)) := (Below.refl _ _).alloc (Nat.le_refl _) _
  refine ⟨hs1, ?_, (A0.gr k (by omega)).gr (Gr.of_nw (B := B) nw) (by omega), Ins.nil _ _, by simp, c.alloc _ _, (G0.out.trans k).alloc _⟩
  rw [← hs1]
  exact PnB.new w1 p _ _
 have HZ : Hid (W0.heap.size = R + 1) := hs0
 clear hc hd hW0 A0 hs0 hR
 go_enter Tryz.func40, Tryz.ntmps40
 go_wp2_with fail
 rw [HW0.out, HR.out]
 refine (pick_any W0 B ca len cap n 10 hl (by omega) (by omega) (by omega) C0.out (HD.out _ G0.out)).mono ?_
 rintro e w1 ⟨x, rfl, x0, x1, hc1, hb1⟩
 have C1 : Hid (Cur w1 B ca len cap (n + 2)) := hc1
 have K1 : Hid (Sel B W0 w1) := hb1
 clear hc1 hb1 C0
 go_wp2_with fail
 refine (pick_any w1 B ca len cap _ 3 hl (by omega) (by omega) (by omega) C1.out (HD.out _ (G0.out.trans (Gr.of_sel K1.out)))).mono ?_
 rintro e w2 ⟨y, rfl, y0, y1, hc1, hb1⟩
 have C2 : Hid (Cur w2 B ca len cap (n + 4)) := hc1
 have K2 : Hid (Gr B W0 w2 ∧ w2.heap.size = W0.heap.size) := ⟨(Gr.of_sel K1.out).trans (Gr.of_sel hb1), by rw [hb1.size, K1.out.size]⟩
 clear hc1 hb1 C1 K1
 go_wp2_with fail
 refine (pick_any w2 B ca len cap _ 3 hl (by omega) (by omega) (by omega) C2.out (HD.out _ (G0.out.trans K2.out.1))).mono ?_
 rintro e w3 ⟨z, rfl, z0, z1, hc1, hb1⟩
 have C3 : Hid (Cur w3 B ca len cap (n + 6)) := hc1
 have K3 : Hid (Gr B W0 w3 ∧ w3.heap.size = W0.heap.size) := ⟨K2.out.1.trans (Gr.of_sel hb1), by rw [hb1.size]; exact K2.out.2⟩
 clear hc1 hb1 C2 K2
 go_wp2_with fail
 refine (pick_any w3 B ca len cap _ 8 hl (by omega) (by omega) (by omega) C3.out (HD.out _ (G0.out.trans K3.out.1))).mono ?_
 rintro e w4 ⟨f, rfl, f0, f1, hc1, hb1⟩
 obtain ⟨hs4, D4⟩ := HS.out w4 ⟨x * 32768, 1 + y, 1 + z, f * 32768⟩ (K3.out.1.trans (Gr.of_sel hb1)) (by rw [hb1.size]; exact K3.out.2) hc1
 have HS4 : Hid (w4.heap.size = R + 1) := hs4
 obtain ⟨W4, hW4⟩ : ∃ W4, w4.alloc (.cells #[.int .i64 (x * 32768), .int .i64 (1 + y), .int .i64 (1 + z), .slice none 0 0, .int .i64 (f * 32768)] 36) = W4 := ⟨_, rfl⟩
 simp only [pnC] at D4
 rw [hW4] at D4
 obtain ⟨P4, hP4⟩ : ∃ P : PD, (⟨x * 32768, 1 + y, 1 + z, f * 32768⟩ : PD) = P := ⟨_, rfl⟩
 rw [hP4] at D4
 have T4 : Hid (PnD B R w W4 ca len cap (n + 8) P4 (.slice none 0 0) []) := D4
 have HW4 : Hid (_ = W4) := hW4
 clear hc1 hb1 C3 K3 HS D4 hs4 hW4 hP4
 go_wp2_with fail
 rw [HW4.out, HS4.out]
 refine (one_any W4 B ca len cap _ 2 hl (by omega) (by omega) (by omega) T4.out.cur (HD.out _ T4.out.gr)).mono ?_
 rintro e w5 ⟨o, rfl, hc1, hb1⟩
 have T5 : Hid (PnD B R w w5 ca len cap (n + 10) P4 (.slice none 0 0) []) := T4.out.go hB (Gr.of_sel hb1) hc1
 clear hc1 hb1 T4 HW4 HS4 HZ G0 x0 x1 y0 y1 z0 z1 f0 f1
 cases o
 case' false =>
  have T6 : Hid (PnD B R w w5 ca len cap (n + 150) P4 (.slice none 0 0) []) := T5.out.go hB (Gr.refl _ _) (T5.out.cur.mono (by omega))
  clear T5
  go_wp2_with fail
  refine (pick_any w5 B ca len cap _ 40 hl (by omega) (by omega) (by omega) T6.out.cur (HD.out _ T6.out.gr)).mono ?_
 case' true =>
  go_wp2_with fail
  refine (dashOf_any w5 B ca len cap _ hl (by omega) T5.out.cur (HD.out _ T5.out.gr)).mono ?_
  rintro e w6 ⟨v, ns, rfl, hi, hln, hc1, hg1⟩
  obtain ⟨va, vc, rfl⟩ := ins_shape hi
  have t6 := T5.out.go hB hg1 hc1
  have T6 : Hid (PnD B R w (w6.setCell ⟨R + 1, 3, none⟩ (.slice va ns.length vc)) ca len cap (n + 150) P4 (.slice va ns.length vc) ns) :=
   ⟨t6.box.sv _, t6.ans.far (by omega), ins_far (ins_base hi (by have := T5.out.box.lt; omega)) _ _ _ (by omega), hln, (t6.cur.mono (by omega)).set (by omega) _ _, t6.gr.set (by rw [HR.out]; omega) _ _⟩
  have c3 := t6.box.c3
  have fz := t6.box.fz
  clear hi hc1 hg1 T5 t6
  go_wp2_with fail
  refine (pick_any _ B ca len cap _ 40 hl (by omega) (by omega) (by omega) T6.out.cur (HD.out _ T6.out.gr)).mono ?_
 all_goals
  rintro e w7 ⟨k, rfl, k0, k1, hc2, hb2⟩
  obtain ⟨v, ns, t7⟩ : ∃ v ns, PnD B R w w7 ca len cap (n + 152) P4 v ns := ⟨_, _, T6.out.go hB (Gr.of_sel hb2) hc2⟩
  have T7 : Hid (PnD B R w w7 ca len cap (n + 152) P4 v ns) := t7
  clear t7 hc2 hb2 T6
  rcases (show k = 0 ∨ k = 1 ∨ k = 2 ∨ 3 ≤ k by omega) with hk | hk | hk | hk
  ·subst hk
   go_wp2_with fail
   refine (among_litN w7 B [-1, 4194304, 4194305] 3 ca len cap _ hl (by omega) (by decide) (by decide) T7.out.cur (HD.out _ T7.out.gr)).mono ?_
   rintro e w8 ⟨x, rfl, _, hc3, hg3⟩
   have t8 := T7.out.go hB hg3 hc3
   obtain ⟨P9, t9⟩ : ∃ P, PnD B R w (w8.setCell ⟨R + 1, 0, none⟩ (.int .i64 x)) ca len cap (n + 152 + 2) P v ns := ⟨_, t8.set HR.out hB 0 _ (t8.box.sw x)⟩
   have T9 : Hid (PnD B R w (w8.setCell ⟨R + 1, 0, none⟩ (.int .i64 x)) ca len cap (n + 152 + 2) P9 v ns) := t9
   have e0 := t8.box.c0
   have ef := t8.box.fz
   clear t8 t9 hc3 hg3 T7
   obtain ⟨va, vc, hv⟩ := ins_shape T9.out.own
   subst hv
   have HLN := T9.out.ln
   have HF : Hid _ := T9.out.fin HR.out hB P9 (.slice va ns.length vc)
   obtain ⟨b0, b1, b2, b3, b4, bf⟩ := T9.out.box
   obtain ⟨a0, a1, a2, a3, a4, af⟩ := T9.out.ans
   obtain ⟨y0, y1, y2, y3, y4, _⟩ := PnB.set5 (q := P9) (u := .slice va ns.length vc) T9.out.ans
   simp only [set5P] at y0 y1 y2 y3 y4 HF
   clear T9
   go_wp2
   refine bodyPost_ret (v := penV P9 (.slice va ns.length vc)) (by simp [results, Tryz.results40, go_sem, y0, y1, y2, y3, y4]) rfl ⟨P9, _, ns, rfl, HF.out.1, HLN, HF.out.2.1.mono (by omega), HF.out.2.2⟩
  ·subst hk
   go_wp2_with fail
   refine (among_litN w7 B [0, 4] 3 ca len cap _ hl (by omega) (by decide) (by decide) T7.out.cur (HD.out _ T7.out.gr)).mono ?_
   rintro e w8 ⟨x, rfl, _, hc3, hg3⟩
   have t8 := T7.out.go hB hg3 hc3
   obtain ⟨P9, t9⟩ : ∃ P, PnD B R w (w8.setCell ⟨R + 1, 1, none⟩ (.int .i64 x)) ca len cap (n + 152 + 2) P v ns := ⟨_, t8.set HR.out hB 1 _ (t8.box.sj x)⟩
   have T9 : Hid (PnD B R w (w8.setCell ⟨R + 1, 1, none⟩ (.int .i64 x)) ca len cap (n + 152 + 2) P9 v ns) := t9
   have e0 := t8.box.c1
   have ef := t8.box.fz
   clear t8 t9 hc3 hg3 T7
   obtain ⟨va, vc, hv⟩ := ins_shape T9.out.own
   subst hv
   have HLN := T9.out.ln
   have HF : Hid _ := T9.out.fin HR.out hB P9 (.slice va ns.length vc)
   obtain ⟨b0, b1, b2, b3, b4, bf⟩ := T9.out.box
   obtain ⟨a0, a1, a2, a3, a4, af⟩ := T9.out.ans
   obtain ⟨y0, y1, y2, y3, y4, _⟩ := PnB.set5 (q := P9) (u := .slice va ns.length vc) T9.out.ans
   simp only [set5P] at y0 y1 y2 y3 y4 HF
   clear T9
   go_wp2
   refine bodyPost_ret (v := penV P9 (.slice va ns.length vc)) (by simp [results, Tryz.results40, go_sem, y0, y1, y2, y3, y4]) rfl ⟨P9, _, ns, rfl, HF.out.1, HLN, HF.out.2.1.mono (by omega), HF.out.2.2⟩
  ·subst hk
   go_wp2_with fail
   refine (among_litN w7 B [-1, 67108865] 3 ca len cap _ hl (by omega) (by decide) (by decide) T7.out.cur (HD.out _ T7.out.gr)).mono ?_
   rintro e w8 ⟨x, rfl, _, hc3, hg3⟩
   have t8 := T7.out.go hB hg3 hc3
   obtain ⟨P9, t9⟩ : ∃ P, PnD B R w (w8.setCell ⟨R + 1, 4, none⟩ (.int .i64 x)) ca len cap (n + 152 + 2) P v ns := ⟨_, t8.set HR.out hB 4 _ (t8.box.sf x)⟩
   have T9 : Hid (PnD B R w (w8.setCell ⟨R + 1, 4, none⟩ (.int .i64 x)) ca len cap (n + 152 + 2) P9 v ns) := t9
   have e0 := t8.box.c4
   have ef := t8.box.fz
   clear t8 t9 hc3 hg3 T7
   obtain ⟨va, vc, hv⟩ := ins_shape T9.out.own
   subst hv
   have HLN := T9.out.ln
   have HF : Hid _ := T9.out.fin HR.out hB P9 (.slice va ns.length vc)
   obtain ⟨b0, b1, b2, b3, b4, bf⟩ := T9.out.box
   obtain ⟨a0, a1, a2, a3, a4, af⟩ := T9.out.ans
   obtain ⟨y0, y1, y2, y3, y4, _⟩ := PnB.set5 (q := P9) (u := .slice va ns.length vc) T9.out.ans
   simp only [set5P] at y0 y1 y2 y3 y4 HF
   clear T9
   go_wp2
   refine bodyPost_ret (v := penV P9 (.slice va ns.length vc)) (by simp [results, Tryz.results40, go_sem, y0, y1, y2, y3, y4]) rfl ⟨P9, _, ns, rfl, HF.out.1, HLN, HF.out.2.1.mono (by omega), HF.out.2.2⟩
  ·have z0 : (k == 0) = false := by rw [beq_eq_false_iff_ne]; omega
   have z1 : (k == 1) = false := by rw [beq_eq_false_iff_ne]; omega
   have z2 : (k == 2) = false := by rw [beq_eq_false_iff_ne]; omega
   obtain ⟨P9, t9⟩ : ∃ P, PnD B R w w7 ca len cap (n + 152) P v ns := ⟨_, T7.out⟩
   have T9 : Hid (PnD B R w w7 ca len cap (n + 152) P9 v ns) := t9
   clear T7 t9
   obtain ⟨va, vc, hv⟩ := ins_shape T9.out.own
   subst hv
   have HLN := T9.out.ln
   have HF : Hid _ := T9.out.fin HR.out hB P9 (.slice va ns.length vc)
   obtain ⟨b0, b1, b2, b3, b4, bf⟩ := T9.out.box
   obtain ⟨a0, a1, a2, a3, a4, af⟩ := T9.out.ans
   obtain ⟨y0, y1, y2, y3, y4, _⟩ := PnB.set5 (q := P9) (u := .slice va ns.length vc) T9.out.ans
   simp only [set5P] at y0 y1 y2 y3 y4 HF
   clear T9
   go_wp2
   refine bodyPost_ret (v := penV P9 (.slice va ns.length vc)) (by simp [results, Tryz.results40, go_sem, y0, y1, y2, y3, y4]) rfl ⟨P9, _, ns, rfl, HF.out.1, HLN, HF.out.2.1.mono (by omega), HF.out.2.2⟩
set_option linter.unusedSimpArgs false
structure DdS (B R L : Nat) (w wr : World) (ca : Option Addr) (len cap n : Nat) (v : Value) (cl : Bool) (p : List Pnt) : Prop where
 c0 : wr.cell? ⟨L, 0, none⟩ = some v
 c1 : wr.cell? ⟨L, 1, none⟩ = some (.bool cl)
 fz : ∀ o, wr.frozen? ⟨L, o, none⟩ = false
 own : OwnP wr (R + 2) v p
 ne : v.ownBlock ≠ some L
 lp : p.length ≤ 10
 cur : Cur wr B ca len cap n
 gr : Gr B w wr
 z0 : wr.cell? ⟨R, 0, none⟩ = some (.slice none 0 0)
 z1 : wr.cell? ⟨R, 1, none⟩ = some (.bool false)
 zf : ∀ o, wr.frozen? ⟨R, o, none⟩ = false
theorem DdS.lt {B R L : Nat} {w wr : World} {ca : Option Addr} {len cap n : Nat} {v : Value} {cl : Bool} {p : List Pnt} (h : DdS B R L w wr ca len cap n v cl p) : L < wr.heap.size := World.block_lt_of_cell? wr ⟨L, 0, none⟩ h.c0
theorem DdS.go {B R L : Nat} {w wr w2 : World} {ca : Option Addr} {len cap n n' : Nat} {v : Value} {cl : Bool} {p : List Pnt} (h : DdS B R L w wr ca len cap n v cl p) (hB : B = R + 1) (hL : B < L) (k : Gr B wr w2) (hc : Cur w2 B ca len cap n') : DdS B R L w w2 ca len cap n' v cl p := by
 have hlt := h.lt
 exact ⟨(k.cell hlt (by omega) 0).trans h.c0, (k.cell hlt (by omega) 1).trans h.c1, fun o => (k.frozen hlt (by omega) o).trans (h.fz o), h.own.gr k (by omega), h.ne, h.lp, hc, h.gr.trans k,
  (k.cell (by omega) (by omega) 0).trans h.z0, (k.cell (by omega) (by omega) 1).trans h.z1, fun o => (k.frozen (by omega) (by omega) o).trans (h.zf o)⟩
theorem DdS.nil {B R L : Nat} {w wr : World} {ca : Option Addr} {len cap n : Nat} {v : Value} {cl : Bool} {p : List Pnt} (h : DdS B R L w wr ca len cap n v cl p) (hw : w.heap.size ≤ L) (hB : B = R + 1) (hL : B < L) : DdS B R L w (wr.setCell ⟨L, 0, none⟩ (.slice none 0 0)) ca len cap n (.slice none 0 0) cl [] :=
 ⟨World.cell?_setCell_same wr ⟨L, 0, none⟩ _ h.c0, (World.cell?_setCell_other _ _ _ _ (by simp)).trans h.c1, fun o => by rw [World.frozen?_setCell]; exact h.fz o, OwnP.nil _ _, (by intro e; cases e), by simp, h.cur.set (by omega) _ _, h.gr.set hw _ _,
  (World.cell?_setCell_other _ _ _ _ (fun e => by injection e; omega)).trans h.z0, (World.cell?_setCell_other _ _ _ _ (fun e => by injection e; omega)).trans h.z1, fun o => by rw [World.frozen?_setCell]; exact h.zf o⟩
set_option maxRecDepth 100000 in
set_option maxHeartbeats 8000000 in
theorem drawDashed_any (w : World) (ca : Option Addr) (len cap : Nat) (hl : len ≤ 9223372036854775807) (hd : Code w w.heap.size ca len) :
  Calls Tryz.prog 5 #[.slice ca len cap] w fun e w' => ∃ (v : Value) (cl : Bool) (p : List Pnt) (u : Value) (ns : List Int) (f : Int), e = .returned (.tuple #[.agg #[v, .bool cl], u, .int .i64 f]) ∧ OwnP w' w.heap.size v p ∧ p.length ≤ 10 ∧ Ins w' w.heap.size u ns ∧ ns.length ≤ 9 ∧ Nw w w' := by
 obtain ⟨R, hR⟩ : ∃ R, w.heap.size = R := ⟨_, rfl⟩
 obtain ⟨W, hW⟩ : ∃ W, (w.alloc (.cells #[.slice none 0 0, .bool false] 25)).alloc (.cells #[.slice ca len cap, .int .i64 0, .int .u64 0] 54) = W := ⟨_, rfl⟩
 have nw : Nw w W := by rw [← hW]; exact Nw.trans ((Below.refl _ _).alloc (Nat.le_refl _) _) ((Below.refl _ _).alloc (Nat.le_refl _) _)
 have hsz : W.heap.size = R + 2 := by rw [← hW, ← hR]; simp
 have C0 : Hid (Cur W (R + 1) ca len cap 0) := by
  show Cur _ _ _ _ _ _
  rw [← hW, ← hR]
  exact ⟨0, 0, by omega, by omega, by omega, by simp, by simp, by simp, fun o => World.frozen?_alloc_at _ _ _ _ (by simp), by simp⟩
 have D0 : Code W (R + 1) ca len := by
  have h := Code.below hd nw
  rw [hR] at h
  rcases h with h | ⟨b, off, h1, h2, h3⟩
  ·exact Or.inl h
  ·exact Or.inr ⟨b, off, h1, by omega, h3⟩
 have HD : Hid (∀ w', Gr (R + 1) W w' → Code w' (R + 1) ca len) := fun w' g => Code.below D0 (g.below (by omega))
 have za : W.cell? ⟨R, 0, none⟩ = some (.slice none 0 0) := by rw [← hW, ← hR]; exact (Below.cell ((Below.refl _ _).alloc (Nat.le_refl _) _) (p := ⟨w.heap.size, 0, none⟩) (by simp)).trans (by simp)
 have zb : W.cell? ⟨R, 1, none⟩ = some (.bool false) := by rw [← hW, ← hR]; exact (Below.cell ((Below.refl _ _).alloc (Nat.le_refl _) _) (p := ⟨w.heap.size, 1, none⟩) (by simp)).trans (by simp)
 have zc : ∀ o, W.frozen? ⟨R, o, none⟩ = false := fun o => by rw [← hW, ← hR]; exact ((bcell ((Below.refl _ _).alloc (Nat.le_refl _) _)).2 _ _ (by simp)).trans (World.frozen?_alloc_at _ _ _ _ rfl)
 have HS : Hid (∀ (w1 : World) (v : Value) (cl : Bool) (p : List Pnt), Gr (R + 1) W w1 → OwnP w1 (R + 2) v p → p.length ≤ 10 → Cur w1 (R + 1) ca len cap 100 → R + 1 < w1.heap.size ∧ DdS (R + 1) R w1.heap.size W (w1.alloc (.cells #[v, .bool cl] 25)) ca len cap 100 v cl p) := fun w1 v cl p k ho hp c => by
  have hs1 := k.size
  have n1 : Nw w1 (w1.alloc (.cells #[v, .bool cl] 25)) := (Below.refl _ _).alloc (Nat.le_refl _) _
  refine ⟨by omega, by simp, by simp, fun o => World.frozen?_alloc_at _ _ _ _ rfl, ho.nw n1, fun e => by have := (OwnQ.lt ho _ e).2; omega, hp, c.alloc _ _, k.alloc _, ?_, ?_, fun o => ((bcell n1).2 _ _ (by omega)).trans ((k.frozen (by omega) (by omega) o).trans (zc o))⟩
  ·exact ((bcell n1).1 _ _ (by omega)).trans ((k.cell (by omega) (by omega) 0).trans za)
  ·exact ((bcell n1).1 _ _ (by omega)).trans ((k.cell (by omega) (by omega) 1).trans zb)
 have HSZ : Hid (W.heap.size = R + 2) := hsz
 have NW : Hid (Nw w W) := nw
 have HW : Hid (_ = W) := hW
 have HR : Hid (w.heap.size = R) := hR
 rw [hR]
 clear hd hW D0 za zb zc hsz nw hR
 go_enter Tryz.func5, Tryz.ntmps5
 go_wp2_with fail
 rw [HW.out, HR.out]
 refine (nearLine_any W (R + 1) ca len cap 0 hl (by omega) C0.out (HD.out _ (Gr.refl _ _))).mono ?_
 rintro e w1 ⟨v, cl, p, rfl, ho1, hp1, hc1, hg1⟩
 rw [HSZ.out] at ho1
 obtain ⟨hs1, S1⟩ := HS.out w1 v cl p hg1 ho1 hp1 (hc1.mono (by omega))
 obtain ⟨L, hL⟩ : ∃ L, w1.heap.size = L := ⟨_, rfl⟩
 obtain ⟨W1, hW1⟩ : ∃ W1, w1.alloc (.cells #[v, .bool cl] 25) = W1 := ⟨_, rfl⟩
 rw [hL] at hs1
 rw [hW1, hL] at S1
 have T1 : Hid (DdS (R + 1) R L W W1 ca len cap 100 v cl p) := S1
 have HWL : Hid (W.heap.size ≤ L) := by have := hg1.size; show _ ≤ _; omega
 have HW1 : Hid (_ = W1) := hW1
 have HL : Hid (w1.heap.size = L) := hL
 obtain ⟨va, vc, hv, _⟩ := ho1.pts
 subst hv
 clear ho1 hp1 hc1 hg1 C0 HS S1 hW1 hL
 go_wp2_with fail
 rw [HW1.out, HL.out]
 refine (one_any W1 (R + 1) ca len cap _ 30 hl (by omega) (by omega) (by omega) T1.out.cur (HD.out _ T1.out.gr)).mono ?_
 rintro e w2 ⟨o, rfl, hc2, hb2⟩
 have T2 : Hid (DdS (R + 1) R L W w2 ca len cap 102 _ cl p) := T1.out.go rfl hs1 (Gr.of_sel hb2) hc2
 clear hc2 hb2 T1 HW1 HL
 cases o
 case' false =>
  obtain ⟨v, p, w3, t3, h3⟩ : ∃ v p w3, DdS (R + 1) R L W w3 ca len cap 102 v cl p ∧ w3 = w2 := ⟨_, _, _, T2.out, rfl⟩
  rw [← h3]
  have T3 : Hid (DdS (R + 1) R L W w3 ca len cap 102 v cl p) := t3
  clear T2 t3 h3
  go_wp2_with fail
  refine (pick_any w3 (R + 1) ca len cap _ 12 hl (by omega) (by omega) (by omega) T3.out.cur (HD.out _ T3.out.gr)).mono ?_
 case' true =>
  have e0 := T2.out.c0
  have ef := T2.out.fz
  obtain ⟨v, p, w3, t3, h3⟩ : ∃ v p w3, DdS (R + 1) R L W w3 ca len cap 102 v cl p ∧ w2.setCell ⟨L, 0, none⟩ (.slice none 0 0) = w3 := ⟨_, _, _, T2.out.nil HWL.out rfl hs1, rfl⟩
  have H3 : Hid (_ = w3) := h3
  have T3 : Hid (DdS (R + 1) R L W w3 ca len cap 102 v cl p) := t3
  clear T2 t3 h3
  go_wp2_with fail
  rw [H3.out]
  clear e0 ef
  refine (pick_any w3 (R + 1) ca len cap _ 12 hl (by omega) (by omega) (by omega) T3.out.cur (HD.out _ T3.out.gr)).mono ?_
 all_goals
  rintro e w4 ⟨f, rfl, f0, f1, hc4, hb4⟩
  have T4 : Hid (DdS (R + 1) R L W w4 ca len cap 104 v cl p) := T3.out.go rfl hs1 (Gr.of_sel hb4) hc4
  clear hc4 hb4 T3
  go_wp2_with fail
  refine (one_any w4 (R + 1) ca len cap _ 30 hl (by omega) (by omega) (by omega) T4.out.cur (HD.out _ T4.out.gr)).mono ?_
  rintro e w5 ⟨o, rfl, hc5, hb5⟩
  have T5 : Hid (DdS (R + 1) R L W w5 ca len cap 106 v cl p) := T4.out.go rfl hs1 (Gr.of_sel hb5) hc5
  clear hc5 hb5 T4
  cases o
  case' false =>
   obtain ⟨w6, t6, h6⟩ : ∃ w6, DdS (R + 1) R L W w6 ca len cap 110 v cl p ∧ w6 = w5 := ⟨_, T5.out.go rfl hs1 (Gr.refl _ _) (T5.out.cur.mono (by omega)), rfl⟩
   rw [← h6]
   have T6 : Hid (DdS (R + 1) R L W w6 ca len cap 110 v cl p) := t6
   clear T5 t6 h6
   go_wp2_with fail
  case' true =>
   go_wp2_with fail
   refine (among_litN w5 (R + 1) [-1, 67108864, 67108865] 3 ca len cap _ hl (by omega) (by decide) (by decide) T5.out.cur (HD.out _ T5.out.gr)).mono ?_
   rintro e w6 ⟨f, rfl, _, hc6, hg6⟩
   have T6 : Hid (DdS (R + 1) R L W w6 ca len cap 110 v cl p) := T5.out.go rfl hs1 hg6 (hc6.mono (by omega))
   clear hc6 hg6 T5
   go_wp2_with fail
  all_goals
   obtain ⟨va, vc, hv, _⟩ := T6.out.own.pts
   subst hv
   have c0 := T6.out.c0
   have c1 := T6.out.c1
   have fz := T6.out.fz
   refine wp_region_any (by kernel_rfl) ?_
   change wpAny _ _ _ _ _ _ _ (World.drew _)
   refine wpAny_take (i := 1) (v := ?_) rfl (by kernel_rfl) (by kernel_rfl) (by kernel_rfl) (fun _ _ _ h => h) (Or.inl ⟨by rfl, ?_⟩) ?_
   rotate_left
   ·intro w; go_simp; try with_reducible rfl
   simp only [Act.put, List.setIfInBounds_toArray, List.set_cons_zero, List.set_cons_succ]
   refine wpAny_take (i := 3) (v := ?_) rfl (by kernel_rfl) (by kernel_rfl) (by kernel_rfl) (fun _ _ _ h => h) (Or.inl ⟨by rfl, ?_⟩) ?_
   rotate_left
   ·intro w; go_simp; try with_reducible rfl
   simp only [Act.put, List.setIfInBounds_toArray, List.set_cons_zero, List.set_cons_succ]
   first | (obtain ⟨F, hF⟩ : ∃ F, f * 32768 = F := ⟨_, rfl⟩; rw [hF]) | (obtain ⟨F, hF⟩ : ∃ F, f = F := ⟨_, rfl⟩; rw [hF])
   refine wpAny_ready (rs := [0, 2]) (by kernel_rfl) (by simp) ?_
   refine AllReady.cons rfl (fun K hK => ?_) (AllReady.cons rfl (fun K hK => ?_) AllReady.nil)
   ·go_simp
    refine hK _ _ ?_
    clear hK K
    refine wpAny_ready (rs := [2]) (by kernel_rfl) (by simp) ?_
    refine AllReady.cons rfl (fun K hK => ?_) AllReady.nil
    go_simp
    refine Calls.mono (dashOf_any _ (R + 1) ca len cap _ hl (by omega) (T6.out.cur.nwN (nw_drw _)) (HD.out _ (T6.out.gr.trans (Gr.of_nw (nw_drw _))))) ?_
    rintro e w7 ⟨u, ns, rfl, hi, hln, hc7, hg7⟩
    have g7 : Gr (R + 1) w6 w7 := (Gr.of_nw (nw_drw _)).trans hg7
    obtain ⟨ua, uc, hu⟩ := ins_shape hi
    subst hu
    have T7 : Hid (DdS (R + 1) R L W w7 ca len cap 210 (.slice va p.length vc) cl p) := T6.out.go rfl hs1 g7 (hc7.mono (by omega))
    have HI : Hid (Ins w7 w6.heap.size (.slice ua ns.length uc) ns) := hi
    have HLN : Hid (ns.length ≤ 9) := hln
    clear hi hln hc7 hg7 g7 c0 c1 fz
    show K _ _
    refine hK _ _ ?_
    clear hK K
    have z0 := T7.out.z0
    have z1 := T7.out.z1
    have zf := T7.out.zf
    obtain ⟨y0, y1⟩ := set2 w7 R (.slice va p.length vc) (.bool cl) z0 z1
    refine wpAny_ready (rs := [4]) (by kernel_rfl) (by simp) ?_
    refine AllReady.cons rfl (fun K hK => ?_) AllReady.nil
    go_simp
    refine hK _ _ ?_
    clear hK K
    refine wpAny_ready (rs := [5]) (by kernel_rfl) (by simp) ?_
    refine AllReady.cons rfl (fun K hK => ?_) AllReady.nil
    go_simp
    refine hK _ _ ?_; clear hK K
    refine wpAny_ready (rs := [6]) (by kernel_rfl) (by simp) ?_
    refine AllReady.cons rfl (fun K hK => ?_) AllReady.nil
    go_simp
    refine hK _ _ ?_; clear hK K
    refine wpAny_done (by kernel_rfl) ?_ _
    go_wp2
    have hsz6 : R < w6.heap.size := by have := T6.out.lt; omega
    have HF : Hid _ := And.intro (OwnQ.far (OwnQ.far T7.out.own R 0 (.slice va p.length vc) (fun e => by have := (OwnQ.lt T7.out.own _ e).1; omega)) R 1 (.bool cl) (fun e => by have := (OwnQ.lt T7.out.own _ e).1; omega)) (And.intro (ins_far (ins_far HI.out R 0 (.slice va p.length vc) hsz6) R 1 (.bool cl) hsz6) (((Below.mono (T7.out.gr.below (by rw [HSZ.out]; omega)) (Nat.le_succ R)).setCell (show R ≤ (Addr.mk R 0 none).block from Nat.le_refl R) (.slice va p.length vc)).setCell (show R ≤ (Addr.mk R 1 none).block from Nat.le_refl R) (.bool cl)))
    refine bodyPost_ret (v := .tuple #[.agg #[.slice va p.length vc, .bool cl], .slice ua ns.length uc, .int .i64 F]) (by simp [results, Tryz.results5, go_sem, y0, y1]) rfl ⟨_, cl, p, _, ns, F, rfl, OwnQ.base HF.out.1 (by omega), T7.out.lp, ins_base HF.out.2.1 (by omega), HLN.out, ?_⟩
    exact Below.trans NW.out (Below.mono HF.out.2.2 (by rw [HR.out]; exact Nat.le_refl _))
   ·go_simp
    refine Calls.mono (dashOf_any _ (R + 1) ca len cap _ hl (by omega) (T6.out.cur.nwN (nw_drw _)) (HD.out _ (T6.out.gr.trans (Gr.of_nw (nw_drw _))))) ?_
    rintro e w7 ⟨u, ns, rfl, hi, hln, hc7, hg7⟩
    have g7 : Gr (R + 1) w6 w7 := (Gr.of_nw (nw_drw _)).trans hg7
    obtain ⟨ua, uc, hu⟩ := ins_shape hi
    subst hu
    have T7 : Hid (DdS (R + 1) R L W w7 ca len cap 210 (.slice va p.length vc) cl p) := T6.out.go rfl hs1 g7 (hc7.mono (by omega))
    have HI : Hid (Ins w7 w6.heap.size (.slice ua ns.length uc) ns) := hi
    have HLN : Hid (ns.length ≤ 9) := hln
    clear hi hln hc7 hg7 g7 c0 c1 fz
    show K _ _
    refine hK _ _ ?_
    clear hK K
    have c0 := T7.out.c0
    have c1 := T7.out.c1
    have fz := T7.out.fz
    refine wpAny_ready (rs := [0]) (by kernel_rfl) (by simp) ?_
    refine AllReady.cons rfl (fun K hK => ?_) AllReady.nil
    go_simp
    refine hK _ _ ?_
    clear hK K c0 c1 fz
    have z0 := T7.out.z0
    have z1 := T7.out.z1
    have zf := T7.out.zf
    obtain ⟨y0, y1⟩ := set2 w7 R (.slice va p.length vc) (.bool cl) z0 z1
    refine wpAny_ready (rs := [4]) (by kernel_rfl) (by simp) ?_
    refine AllReady.cons rfl (fun K hK => ?_) AllReady.nil
    go_simp
    refine hK _ _ ?_
    clear hK K
    refine wpAny_ready (rs := [5]) (by kernel_rfl) (by simp) ?_
    refine AllReady.cons rfl (fun K hK => ?_) AllReady.nil
    go_simp
    refine hK _ _ ?_; clear hK K
    refine wpAny_ready (rs := [6]) (by kernel_rfl) (by simp) ?_
    refine AllReady.cons rfl (fun K hK => ?_) AllReady.nil
    go_simp
    refine hK _ _ ?_; clear hK K
    refine wpAny_done (by kernel_rfl) ?_ _
    go_wp2
    have hsz6 : R < w6.heap.size := by have := T6.out.lt; omega
    have HF : Hid _ := And.intro (OwnQ.far (OwnQ.far T7.out.own R 0 (.slice va p.length vc) (fun e => by have := (OwnQ.lt T7.out.own _ e).1; omega)) R 1 (.bool cl) (fun e => by have := (OwnQ.lt T7.out.own _ e).1; omega)) (And.intro (ins_far (ins_far HI.out R 0 (.slice va p.length vc) hsz6) R 1 (.bool cl) hsz6) (((Below.mono (T7.out.gr.below (by rw [HSZ.out]; omega)) (Nat.le_succ R)).setCell (show R ≤ (Addr.mk R 0 none).block from Nat.le_refl R) (.slice va p.length vc)).setCell (show R ≤ (Addr.mk R 1 none).block from Nat.le_refl R) (.bool cl)))
    refine bodyPost_ret (v := .tuple #[.agg #[.slice va p.length vc, .bool cl], .slice ua ns.length uc, .int .i64 F]) (by simp [results, Tryz.results5, go_sem, y0, y1]) rfl ⟨_, cl, p, _, ns, F, rfl, OwnQ.base HF.out.1 (by omega), T7.out.lp, ins_base HF.out.2.1 (by omega), HLN.out, ?_⟩
    exact Below.trans NW.out (Below.mono HF.out.2.2 (by rw [HR.out]; exact Nat.le_refl _))
end Go.Proofs.YtnkeljmecbohkaaGreat

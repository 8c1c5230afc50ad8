/-
  Runs of colors, by the program: RunAt; and the walk of the law on it; each theorem names its conditions.
-/
import Derived.Test.YthlohbiocfeapaaRnI
import Derived.Test.YthlohbiocfeapaaRuW
import Derived.Test.YthlohbiocfeapaaRgG
namespace Go.Proofs.Ythlohbiocfeapaa
open Go.ChangeShapes Go.WideShapes Go.ChangeAt Go.RowKit
set_option linter.unusedVariables false

set_option maxRecDepth 100000 in
set_option maxHeartbeats 8000000 in
theorem ibetween (w : World) (a b : Stp) (X : Int) (ha : ok16 a.p) (hb : ok16 b.p) (hta : tnB a.t = true) (htb : tnB b.t = true) (h1 : a.p ≤ X) (h2 : X < b.p) :
    Calls Try.prog 110 #[spV a, spV b, .int .i64 X] w fun e w' => e = .returned (edV (mixT a b X)) ∧ Kp w w' := by
  obtain ⟨W, hW⟩ : ∃ W, (((w.alloc (.cells #[.int .i64 a.p, .int .i64 a.t.ax, .int .i64 a.t.ay, .int .i64 a.t.bx, .int .i64 a.t.cy] 106)).alloc (.cells #[.int .i64 b.p, .int .i64 b.t.ax, .int .i64 b.t.ay, .int .i64 b.t.bx, .int .i64 b.t.cy] 106)).alloc (.cells #[.int .i64 X] 3)).alloc (.cells #[.int .i64 0, .int .i64 0, .int .i64 0, .int .i64 0] 24) = W := ⟨_, rfl⟩
  have KW : Hid (Kp w W) := by show Kp w W; rw [← hW]; exact ((((Kp.refl w).alloc _ _).alloc _ _).alloc _ _).alloc _ _
  have HA : Hid (SB W w.heap.size a) := by
    show SB _ _ _
    rw [← hW]
    exact (((SB.new w a 106).nw (QBnw _ _)).nw (QBnw _ _)).nw (QBnw _ _)
  have HB : Hid (SB W (w.heap.size + 1) b) := by
    show SB _ _ _
    rw [← hW]
    have := SB.new (w.alloc (.cells #[.int .i64 a.p, .int .i64 a.t.ax, .int .i64 a.t.ay, .int .i64 a.t.bx, .int .i64 a.t.cy] 106)) b 106
    simp only [World.size_alloc] at this
    exact (this.nw (QBnw _ _)).nw (QBnw _ _)
  have HX : Hid (W.cell? ⟨w.heap.size + 1 + 1, 0, none⟩ = some (.int .i64 X)) := by
    have h1 : ∀ (w : World) (v : Value) (ty : TypeId), (w.alloc (.cells #[v] ty)).cell? ⟨w.heap.size, 0, none⟩ = some v := fun _ _ _ => by simp
    have h := h1 ((w.alloc (.cells #[.int .i64 a.p, .int .i64 a.t.ax, .int .i64 a.t.ay, .int .i64 a.t.bx, .int .i64 a.t.cy] 106)).alloc (.cells #[.int .i64 b.p, .int .i64 b.t.ax, .int .i64 b.t.ay, .int .i64 b.t.bx, .int .i64 b.t.cy] 106)) (.int .i64 X) 3
    simp only [World.size_alloc] at h
    show _ = _
    rw [← hW]
    exact ((bcell (QBnw _ _)).1 _ _ (World.block_lt_of_cell? _ ⟨_, 0, none⟩ h)).trans h
  have HZ : Hid (QB W (w.heap.size + 1 + 1 + 1) noE) := by
    show QB _ _ _
    rw [← hW]
    have := QB.new (((w.alloc (.cells #[.int .i64 a.p, .int .i64 a.t.ax, .int .i64 a.t.ay, .int .i64 a.t.bx, .int .i64 a.t.cy] 106)).alloc (.cells #[.int .i64 b.p, .int .i64 b.t.ax, .int .i64 b.t.ay, .int .i64 b.t.bx, .int .i64 b.t.cy] 106)).alloc (.cells #[.int .i64 X] 3)) noE 24
    simp only [World.size_alloc] at this
    exact this
  have HC : Hid (Calls Try.prog 106 #[edV a.t, edV b.t, .func (.func 117) #[] #[.pointer (some ⟨w.heap.size + 1, 0, none⟩), .pointer (some ⟨w.heap.size + 1 + 1, 0, none⟩), .pointer (some ⟨w.heap.size, 0, none⟩)]] W fun e w' => e = .returned (edV (mixT a b X)) ∧ Kp W w') := by
    have oa := tnB_some hta
    have ob := tnB_some htb
    have hcl : ∀ w1, Kp W w1 → w1.cell? ⟨w.heap.size + 1, 0, none⟩ = some (.int .i64 b.p) ∧ w1.cell? ⟨w.heap.size + 1 + 1, 0, none⟩ = some (.int .i64 X) ∧ w1.cell? ⟨w.heap.size, 0, none⟩ = some (.int .i64 a.p) := fun w1 k => ⟨rq_at k HB.out.c0, rq_at k HX.out, rq_at k HA.out.c0⟩
    exact iwith W a.t b.t (mixT a b X) 117 _ (fun _ _ => by simp [go_sem])
      (fun w1 k => ibet1 w1 _ _ _ _ _ _ _ _ oa.1 ob.1 ha hb h1 h2 (hcl w1 k).1 (hcl w1 k).2.1 (hcl w1 k).2.2)
      (fun w1 k => ibet1 w1 _ _ _ _ _ _ _ _ oa.2.1 ob.2.1 ha hb h1 h2 (hcl w1 k).1 (hcl w1 k).2.1 (hcl w1 k).2.2)
      (fun w1 k => ibet1 w1 _ _ _ _ _ _ _ _ oa.2.2.1 ob.2.2.1 ha hb h1 h2 (hcl w1 k).1 (hcl w1 k).2.1 (hcl w1 k).2.2)
      (fun w1 k => ibet1 w1 _ _ _ _ _ _ _ _ oa.2.2.2 ob.2.2.2 ha hb h1 h2 (hcl w1 k).1 (hcl w1 k).2.1 (hcl w1 k).2.2)
  have HW : Hid (_ = W) := hW
  have hmf : ∀ (fn : Fn) (first cap : Array Value) (w : World), (Instr.makeFunc fn first cap).run Try.prog w = .ok (.func fn first cap) w := fun _ _ _ _ => rfl
  clear hW ha hb hta htb h1 h2 HA HB HX
  generalize mixT a b X = V at *
  obtain ⟨ap, ⟨a0, a1, a2, a3⟩⟩ := a
  obtain ⟨bp, ⟨b0, b1, b2, b3⟩⟩ := b
  obtain ⟨v0, v1, v2, v3⟩ := V
  unfold edV at HC ⊢
  unfold spV
  simp only at HC HW ⊢
  go_enter Try.func110, Try.ntmps110
  go_wp2_with fail
  rw [HW.out]
  refine Calls.mono HC.out ?_
  rintro e w4 ⟨rfl, k4⟩
  have K4 : Hid (Kp W w4) := k4
  clear k4
  obtain ⟨z0, z1, z2, z3, zf⟩ := QB.nw HZ.out K4.out.nw
  simp only [noE] at z0 z1 z2 z3
  obtain ⟨y0, y1, y2, y3⟩ := set4 w4 (w.heap.size + 1 + 1 + 1) (.int .i64 v0) (.int .i64 v1) (.int .i64 v2) (.int .i64 v3) z0 z1 z2 z3
  go_wp2
  refine bodyPost_ret (v := .agg #[.int .i64 v0, .int .i64 v1, .int .i64 v2, .int .i64 v3]) (by simp [results, Try.results110, go_sem, y0, y1, y2, y3]) rfl ⟨rfl, ?_⟩
  exact ((((Kp.trans KW.out K4.out).setCell (by first | (simp; done) | (simp; omega)) _).setCell (by first | (simp; done) | (simp; omega)) _).setCell (by first | (simp; done) | (simp; omega)) _).setCell (by first | (simp; done) | (simp; omega)) _
structure ALR where
  k : Nat
  bn : Nat
  br : Nat
  gb : Nat
  go : Nat
  n : Nat
  c : Nat
  x : Int
  p : Int
  r0 : Int
  r1 : Int
  r2 : Int
  r3 : Int
  q : Int
  w0 : Int
  w1 : Int
  w2 : Int
  w3 : Int
  W : World
  a0 : Act
structure ALROk (X : ALR) : Prop where
  c0 : X.W.cell? ⟨X.bn, 0, none⟩ = some (.int .i64 X.q)
  c1 : X.W.cell? ⟨X.bn, 1, none⟩ = some (.int .i64 X.w0)
  c2 : X.W.cell? ⟨X.bn, 2, none⟩ = some (.int .i64 X.w1)
  c3 : X.W.cell? ⟨X.bn, 3, none⟩ = some (.int .i64 X.w2)
  c4 : X.W.cell? ⟨X.bn, 4, none⟩ = some (.int .i64 X.w3)
  hk : X.k < X.n
  y0 : X.W.cell? ⟨X.gb, X.go + X.k * 5, none⟩ = some (.int .i64 X.p)
  y1 : X.W.cell? ⟨X.gb, X.go + X.k * 5 + 1, none⟩ = some (.int .i64 X.r0)
  y2 : X.W.cell? ⟨X.gb, X.go + X.k * 5 + 2, none⟩ = some (.int .i64 X.r1)
  y3 : X.W.cell? ⟨X.gb, X.go + X.k * 5 + 3, none⟩ = some (.int .i64 X.r2)
  y4 : X.W.cell? ⟨X.gb, X.go + X.k * 5 + 4, none⟩ = some (.int .i64 X.r3)
  ha : ok16 X.p
  hb : ok16 X.q
  hta : tnB ⟨X.r0, X.r1, X.r2, X.r3⟩ = true
  htb : tnB ⟨X.w0, X.w1, X.w2, X.w3⟩ = true
  h1 : X.p ≤ X.x
  h2 : X.x < X.q
  z0 : ∃ u, X.W.cell? ⟨X.br, 0, none⟩ = some u
  z1 : ∃ u, X.W.cell? ⟨X.br, 1, none⟩ = some u
  z2 : ∃ u, X.W.cell? ⟨X.br, 2, none⟩ = some u
  z3 : ∃ u, X.W.cell? ⟨X.br, 3, none⟩ = some u
  zf : ∀ o, X.W.frozen? ⟨X.br, o, none⟩ = false
  e0 : X.a0.eval (.tmp 0) = .slice (some ⟨X.gb, X.go, none⟩) X.n X.c
  e1 : X.a0.eval (.tmp 1) = .int .i64 X.x
  e4 : X.a0.eval (.tmp 4) = .pointer (some ⟨X.br, 0, none⟩)
  e5 : X.a0.eval (.tmp 5) = .int .i64 (X.k : Int)
  e6 : X.a0.eval (.tmp 6) = .pointer (some ⟨X.bn, 0, none⟩)
  sz : X.a0.tmps.size = 44
def ALR.val0 (X : ALR) : Nat → Value
  | 29 => .slice (some ⟨X.gb, X.go, none⟩) X.n X.c
  | 30 => .int .i64 (X.k : Int)
  | 31 => .pointer (some ⟨X.gb, X.go + X.k * 5, none⟩)
  | 32 => .agg #[.int .i64 X.p, .int .i64 X.r0, .int .i64 X.r1, .int .i64 X.r2, .int .i64 X.r3]
  | 33 => .agg #[.int .i64 X.q, .int .i64 X.w0, .int .i64 X.w1, .int .i64 X.w2, .int .i64 X.w3]
  | 34 => .int .i64 X.x
  | 35 => .agg #[.int .i64 (mixT ⟨X.p, ⟨X.r0, X.r1, X.r2, X.r3⟩⟩ ⟨X.q, ⟨X.w0, X.w1, X.w2, X.w3⟩⟩ X.x).ax, .int .i64 (mixT ⟨X.p, ⟨X.r0, X.r1, X.r2, X.r3⟩⟩ ⟨X.q, ⟨X.w0, X.w1, X.w2, X.w3⟩⟩ X.x).ay, .int .i64 (mixT ⟨X.p, ⟨X.r0, X.r1, X.r2, X.r3⟩⟩ ⟨X.q, ⟨X.w0, X.w1, X.w2, X.w3⟩⟩ X.x).bx, .int .i64 (mixT ⟨X.p, ⟨X.r0, X.r1, X.r2, X.r3⟩⟩ ⟨X.q, ⟨X.w0, X.w1, X.w2, X.w3⟩⟩ X.x).cy]
  | _ => undef
def ALR.av : Nat → Option Nat
  | _ => none
def ALR.acts : List Nat := [7]
/-- The world, by how many of the acting ones have come up. -/
def ALR.Wd (X : ALR) : Nat → (Nat → Value) → World → Prop
  | 0, _, w => Kp X.W w
  | _, _, w => ∃ w1, Kp X.W w1 ∧ w = ((((w1.setCell ⟨X.br, 0, none⟩ (.int .i64 (mixT ⟨X.p, ⟨X.r0, X.r1, X.r2, X.r3⟩⟩ ⟨X.q, ⟨X.w0, X.w1, X.w2, X.w3⟩⟩ X.x).ax)).setCell ⟨X.br, 1, none⟩ (.int .i64 (mixT ⟨X.p, ⟨X.r0, X.r1, X.r2, X.r3⟩⟩ ⟨X.q, ⟨X.w0, X.w1, X.w2, X.w3⟩⟩ X.x).ay)).setCell ⟨X.br, 2, none⟩ (.int .i64 (mixT ⟨X.p, ⟨X.r0, X.r1, X.r2, X.r3⟩⟩ ⟨X.q, ⟨X.w0, X.w1, X.w2, X.w3⟩⟩ X.x).bx)).setCell ⟨X.br, 3, none⟩ (.int .i64 (mixT ⟨X.p, ⟨X.r0, X.r1, X.r2, X.r3⟩⟩ ⟨X.q, ⟨X.w0, X.w1, X.w2, X.w3⟩⟩ X.x).cy))
theorem ALR.chain : chainG (opsOf 7 Try.f67) ALR.acts = true := by kernel_rfl
theorem ALR.nodup : ALR.acts.Nodup := by decide
theorem ALR.inj {listed : Array Bool} {i k : Nat} (h : (List.range (opsOf 7 Try.f67).size).all (fun j => decide (j = i) || !(match dstOf (opsOf 7 Try.f67) j with | some d => decide (ALR.av d = some k) | none => false)) = true) (hu : listed.getD i false = false) : ∀ d, got (opsOf 7 Try.f67) listed d → ALR.av d ≠ some k := by
  rintro d ⟨j, h1, h2⟩ h3
  have hlt : j < (opsOf 7 Try.f67).size := by
    rcases Nat.lt_or_ge j (opsOf 7 Try.f67).size with h4 | h4
    · exact h4
    · unfold dstOf at h2; rw [Array.getElem?_eq_none h4] at h2; cases h2
  have h5 := List.all_eq_true.1 h j (List.mem_range.2 hlt)
  rw [h2] at h5
  simp only [h3, decide_true, Bool.not_true, Bool.or_false, decide_eq_true_eq] at h5
  subst h5
  rw [hu] at h1
  cases h1
theorem ALR.s0 (X : ALR) (ok : ALROk X) {Q : Exit → Act → World → Prop} : StepG (opsOf 7 Try.f67) ALR.acts ALR.av X.val0 X.Wd X.a0 Q 0 := by
  intro γ listed a w o hF hC hW h1 ho h2
  obtain ⟨hd, hop, hg⟩ := fields2 (x := some 29) (y := Op.move (.tmp 0)) (z := none) (by kernel_rfl) ho
  have e0 : a.eval (.tmp 0) = .slice (some ⟨X.gb, X.go, none⟩) X.n X.c := (hF.eval0 (by kernel_rfl)).trans ok.e0
  refine st_pureG hF hC hW ho h2 (by decide) hd hg rfl ?_
  show _ = Result.ok (Next.value (.slice (some ⟨X.gb, X.go, none⟩) X.n X.c)) w
  generalize a.eval = ρ at e0 ⊢
  unfold execOp
  rw [hop]
  simp [e0, go_sem]
theorem ALR.s1 (X : ALR) (ok : ALROk X) {Q : Exit → Act → World → Prop} : StepG (opsOf 7 Try.f67) ALR.acts ALR.av X.val0 X.Wd X.a0 Q 1 := by
  intro γ listed a w o hF hC hW h1 ho h2
  obtain ⟨hd, hop, hg⟩ := fields2 (x := some 30) (y := Op.move (.tmp 5)) (z := none) (by kernel_rfl) ho
  have e5 : a.eval (.tmp 5) = .int .i64 (X.k : Int) := (hF.eval0 (by kernel_rfl)).trans ok.e5
  refine st_pureG hF hC hW ho h2 (by decide) hd hg rfl ?_
  show _ = Result.ok (Next.value (.int .i64 (X.k : Int))) w
  generalize a.eval = ρ at e5 ⊢
  unfold execOp
  rw [hop]
  simp [e5, go_sem]
theorem ALR.s2 (X : ALR) (ok : ALROk X) {Q : Exit → Act → World → Prop} : StepG (opsOf 7 Try.f67) ALR.acts ALR.av X.val0 X.Wd X.a0 Q 2 := by
  intro γ listed a w o hF hC hW h1 ho h2
  obtain ⟨hd, hop, hg⟩ := fields2 (x := some 31) (y := Op.indexAddr 30 (.tmp 29) (.tmp 30)) (z := none) (by kernel_rfl) ho
  have e29 : a.eval (.tmp 29) = .slice (some ⟨X.gb, X.go, none⟩) X.n X.c := slotG hF ho h2 (j := 0) (d := 29) (by kernel_rfl) (by kernel_rfl) (by rw [ok.sz]; decide)
  have e30 : a.eval (.tmp 30) = .int .i64 (X.k : Int) := slotG hF ho h2 (j := 1) (d := 30) (by kernel_rfl) (by kernel_rfl) (by rw [ok.sz]; decide)
  refine st_pureG hF hC hW ho h2 (by decide) hd hg rfl ?_
  show _ = Result.ok (Next.value (.pointer (some ⟨X.gb, X.go + X.k * 5, none⟩))) w
  generalize a.eval = ρ at e29 e30 ⊢
  unfold execOp
  rw [hop]
  simp [e29, e30, ok.hk, go_sem]
theorem ALR.s3 (X : ALR) (ok : ALROk X) {Q : Exit → Act → World → Prop} : StepG (opsOf 7 Try.f67) ALR.acts ALR.av X.val0 X.Wd X.a0 Q 3 := by
  intro γ listed a w o hF hC hW h1 ho h2
  obtain ⟨hd, hop, hg⟩ := fields2 (x := some 32) (y := Op.load 106 (.tmp 31)) (z := none) (by kernel_rfl) ho
  have e31 : a.eval (.tmp 31) = .pointer (some ⟨X.gb, X.go + X.k * 5, none⟩) := slotG hF ho h2 (j := 2) (d := 31) (by kernel_rfl) (by kernel_rfl) (by rw [ok.sz]; decide)
  have hph := phase_leG (acts := ALR.acts) (m := 0) (x := 7) hC (unl (hF.lt ho) h1) rfl [6, 3] (by kernel_rfl) (by decide)
  have hWW := hW
  generalize phase listed ALR.acts = n at hph hWW
  have hk : Kp X.W w := by
    obtain rfl : n = 0 := by omega
    exact hWW
  have hc0 := rq_at hk ok.y0
  have hc1 := rq_at hk ok.y1
  have hc2 := rq_at hk ok.y2
  have hc3 := rq_at hk ok.y3
  have hc4 := rq_at hk ok.y4
  refine st_pureG hF hC hW ho h2 (by decide) hd hg rfl ?_
  show _ = Result.ok (Next.value (.agg #[.int .i64 X.p, .int .i64 X.r0, .int .i64 X.r1, .int .i64 X.r2, .int .i64 X.r3])) w
  generalize a.eval = ρ at e31 ⊢
  unfold execOp
  rw [hop]
  simp [e31, hc0, hc1, hc2, hc3, hc4, go_sem]
theorem ALR.s4 (X : ALR) (ok : ALROk X) {Q : Exit → Act → World → Prop} : StepG (opsOf 7 Try.f67) ALR.acts ALR.av X.val0 X.Wd X.a0 Q 4 := by
  intro γ listed a w o hF hC hW h1 ho h2
  obtain ⟨hd, hop, hg⟩ := fields2 (x := some 33) (y := Op.load 106 (.tmp 6)) (z := none) (by kernel_rfl) ho
  have e6 : a.eval (.tmp 6) = .pointer (some ⟨X.bn, 0, none⟩) := (hF.eval0 (by kernel_rfl)).trans ok.e6
  have hph := phase_leG (acts := ALR.acts) (m := 0) (x := 7) hC (unl (hF.lt ho) h1) rfl [6, 4] (by kernel_rfl) (by decide)
  have hWW := hW
  generalize phase listed ALR.acts = n at hph hWW
  have hk : Kp X.W w := by
    obtain rfl : n = 0 := by omega
    exact hWW
  have hc0 := rq_at hk ok.c0
  have hc1 := rq_at hk ok.c1
  have hc2 := rq_at hk ok.c2
  have hc3 := rq_at hk ok.c3
  have hc4 := rq_at hk ok.c4
  refine st_pureG hF hC hW ho h2 (by decide) hd hg rfl ?_
  show _ = Result.ok (Next.value (.agg #[.int .i64 X.q, .int .i64 X.w0, .int .i64 X.w1, .int .i64 X.w2, .int .i64 X.w3])) w
  generalize a.eval = ρ at e6 ⊢
  unfold execOp
  rw [hop]
  simp [e6, hc0, hc1, hc2, hc3, hc4, go_sem]
theorem ALR.s5 (X : ALR) (ok : ALROk X) {Q : Exit → Act → World → Prop} : StepG (opsOf 7 Try.f67) ALR.acts ALR.av X.val0 X.Wd X.a0 Q 5 := by
  intro γ listed a w o hF hC hW h1 ho h2
  obtain ⟨hd, hop, hg⟩ := fields2 (x := some 34) (y := Op.move (.tmp 1)) (z := none) (by kernel_rfl) ho
  have e1 : a.eval (.tmp 1) = .int .i64 X.x := (hF.eval0 (by kernel_rfl)).trans ok.e1
  refine st_pureG hF hC hW ho h2 (by decide) hd hg rfl ?_
  show _ = Result.ok (Next.value (.int .i64 X.x)) w
  generalize a.eval = ρ at e1 ⊢
  unfold execOp
  rw [hop]
  simp [e1, go_sem]
theorem ALR.s6 (X : ALR) (ok : ALROk X) {Q : Exit → Act → World → Prop} : StepG (opsOf 7 Try.f67) ALR.acts ALR.av X.val0 X.Wd X.a0 Q 6 := by
  intro γ listed a w o hF hC hW h1 ho h2
  obtain ⟨hd, hop, hg⟩ := fields2 (x := some 35) (y := Op.call { callee := .value (.func 110), args := #[(.tmp 32), (.tmp 33), (.tmp 34)], argTypes := #[106, 106, 3] }) (z := none) (by kernel_rfl) ho
  have e32 : a.eval (.tmp 32) = .agg #[.int .i64 X.p, .int .i64 X.r0, .int .i64 X.r1, .int .i64 X.r2, .int .i64 X.r3] := slotG hF ho h2 (j := 3) (d := 32) (by kernel_rfl) (by kernel_rfl) (by rw [ok.sz]; decide)
  have e33 : a.eval (.tmp 33) = .agg #[.int .i64 X.q, .int .i64 X.w0, .int .i64 X.w1, .int .i64 X.w2, .int .i64 X.w3] := slotG hF ho h2 (j := 4) (d := 33) (by kernel_rfl) (by kernel_rfl) (by rw [ok.sz]; decide)
  have e34 : a.eval (.tmp 34) = .int .i64 X.x := slotG hF ho h2 (j := 5) (d := 34) (by kernel_rfl) (by kernel_rfl) (by rw [ok.sz]; decide)
  have ef : a.eval (.func 110) = .func (.func 110) #[] #[] := rfl
  have hph := phase_leG (acts := ALR.acts) (m := 0) (x := 7) hC (unl (hF.lt ho) h1) rfl [6] (by kernel_rfl) (by decide)
  have hWW := hW
  generalize phase listed ALR.acts = n at hph hWW
  refine st_callG hF hC hW ho h2 (by decide) hd hg rfl (f := 110) (args := #[.agg #[.int .i64 X.p, .int .i64 X.r0, .int .i64 X.r1, .int .i64 X.r2, .int .i64 X.r3], .agg #[.int .i64 X.q, .int .i64 X.w0, .int .i64 X.w1, .int .i64 X.w2, .int .i64 X.w3], .int .i64 X.x]) ?_ ?_ ?_
  · generalize a.eval = ρ at e32 e33 e34 ef ⊢
    unfold execOp
    rw [hop]
    simp [e32, e33, e34, ef, go_sem]
  · exact ibetween w ⟨X.p, ⟨X.r0, X.r1, X.r2, X.r3⟩⟩ ⟨X.q, ⟨X.w0, X.w1, X.w2, X.w3⟩⟩ X.x ok.ha ok.hb ok.hta ok.htb ok.h1 ok.h2
  · intro w' hk
    have hz : phase listed ALR.acts = 0 := by
      have := phase_leG (acts := ALR.acts) (m := 0) (x := 7) hC (unl (hF.lt ho) h1) rfl [6] (by kernel_rfl) (by decide)
      omega
    rw [hz] at hW ⊢
    exact Kp.trans hW hk
theorem ALR.s7 (X : ALR) (ok : ALROk X) {Q : Exit → Act → World → Prop} : StepG (opsOf 7 Try.f67) ALR.acts ALR.av X.val0 X.Wd X.a0 Q 7 := by
  intro γ listed a w o hF hC hW h1 ho h2
  obtain ⟨hd, hop, hg⟩ := fields2 (x := none) (y := Op.store 24 (.tmp 4) (.tmp 35)) (z := none) (by kernel_rfl) ho
  have e4 : a.eval (.tmp 4) = .pointer (some ⟨X.br, 0, none⟩) := (hF.eval0 (by kernel_rfl)).trans ok.e4
  have e35 : a.eval (.tmp 35) = .agg #[.int .i64 (mixT ⟨X.p, ⟨X.r0, X.r1, X.r2, X.r3⟩⟩ ⟨X.q, ⟨X.w0, X.w1, X.w2, X.w3⟩⟩ X.x).ax, .int .i64 (mixT ⟨X.p, ⟨X.r0, X.r1, X.r2, X.r3⟩⟩ ⟨X.q, ⟨X.w0, X.w1, X.w2, X.w3⟩⟩ X.x).ay, .int .i64 (mixT ⟨X.p, ⟨X.r0, X.r1, X.r2, X.r3⟩⟩ ⟨X.q, ⟨X.w0, X.w1, X.w2, X.w3⟩⟩ X.x).bx, .int .i64 (mixT ⟨X.p, ⟨X.r0, X.r1, X.r2, X.r3⟩⟩ ⟨X.q, ⟨X.w0, X.w1, X.w2, X.w3⟩⟩ X.x).cy] := slotG hF ho h2 (j := 6) (d := 35) (by kernel_rfl) (by kernel_rfl) (by rw [ok.sz]; decide)
  have hu := unl (hF.lt ho) h1
  refine st_actG (k := 0) ALR.chain ALR.nodup rfl hF hC hW h1 ho h2 (Or.inl hd) (ALR.inj (by kernel_rfl) hu) hg ?_
  intro hW0 K hK
  obtain ⟨u0, z0⟩ := ok.z0
  replace z0 := rq_at hW0 z0
  obtain ⟨u1, z1⟩ := ok.z1
  replace z1 := rq_at hW0 z1
  obtain ⟨u2, z2⟩ := ok.z2
  replace z2 := rq_at hW0 z2
  obtain ⟨u3, z3⟩ := ok.z3
  replace z3 := rq_at hW0 z3
  have zf : ∀ o, w.frozen? ⟨X.br, o, none⟩ = false := fun o => (hW0.cells.2 _ _).trans (ok.zf o)
  have hr : (execOp a.eval o).run Try.prog w = .ok .skip ((((w.setCell ⟨X.br, 0, none⟩ (.int .i64 (mixT ⟨X.p, ⟨X.r0, X.r1, X.r2, X.r3⟩⟩ ⟨X.q, ⟨X.w0, X.w1, X.w2, X.w3⟩⟩ X.x).ax)).setCell ⟨X.br, 1, none⟩ (.int .i64 (mixT ⟨X.p, ⟨X.r0, X.r1, X.r2, X.r3⟩⟩ ⟨X.q, ⟨X.w0, X.w1, X.w2, X.w3⟩⟩ X.x).ay)).setCell ⟨X.br, 2, none⟩ (.int .i64 (mixT ⟨X.p, ⟨X.r0, X.r1, X.r2, X.r3⟩⟩ ⟨X.q, ⟨X.w0, X.w1, X.w2, X.w3⟩⟩ X.x).bx)).setCell ⟨X.br, 3, none⟩ (.int .i64 (mixT ⟨X.p, ⟨X.r0, X.r1, X.r2, X.r3⟩⟩ ⟨X.q, ⟨X.w0, X.w1, X.w2, X.w3⟩⟩ X.x).cy)) := by
    generalize a.eval = ρ at e4 e35 ⊢
    unfold execOp
    rw [hop]
    simp [e4, e35, z0, z1, z2, z3, zf, go_sem]
  unfold Oper.wp
  rw [hr]
  exact hK _ _ ⟨w, hW0, rfl⟩
theorem ALR.size : (opsOf 7 Try.f67).size = 8 := by kernel_rfl
theorem ALR.steps (X : ALR) (ok : ALROk X) {Q : Exit → Act → World → Prop} (i : Nat) (hi : i < (opsOf 7 Try.f67).size) : StepG (opsOf 7 Try.f67) ALR.acts ALR.av X.val0 X.Wd X.a0 Q i := by
  rw [ALR.size] at hi
  have hc : i = 0 ∨ i = 1 ∨ i = 2 ∨ i = 3 ∨ i = 4 ∨ i = 5 ∨ i = 6 ∨ i = 7 := by omega
  rcases hc with rfl | rfl | rfl | rfl | rfl | rfl | rfl | rfl
  · exact ALR.s0 X ok
  · exact ALR.s1 X ok
  · exact ALR.s2 X ok
  · exact ALR.s3 X ok
  · exact ALR.s4 X ok
  · exact ALR.s5 X ok
  · exact ALR.s6 X ok
  · exact ALR.s7 X ok
theorem ALR.puts (X : ALR) (γ : Nat → Value) (a0 : Act) : putsL (valG ALR.av X.val0 γ) (opsOf 7 Try.f67).toList a0 = (((((((a0.put (some 29) (.slice (some ⟨X.gb, X.go, none⟩) X.n X.c)).put (some 30) (.int .i64 (X.k : Int))).put (some 31) (.pointer (some ⟨X.gb, X.go + X.k * 5, none⟩))).put (some 32) (.agg #[.int .i64 X.p, .int .i64 X.r0, .int .i64 X.r1, .int .i64 X.r2, .int .i64 X.r3])).put (some 33) (.agg #[.int .i64 X.q, .int .i64 X.w0, .int .i64 X.w1, .int .i64 X.w2, .int .i64 X.w3])).put (some 34) (.int .i64 X.x)).put (some 35) (.agg #[.int .i64 (mixT ⟨X.p, ⟨X.r0, X.r1, X.r2, X.r3⟩⟩ ⟨X.q, ⟨X.w0, X.w1, X.w2, X.w3⟩⟩ X.x).ax, .int .i64 (mixT ⟨X.p, ⟨X.r0, X.r1, X.r2, X.r3⟩⟩ ⟨X.q, ⟨X.w0, X.w1, X.w2, X.w3⟩⟩ X.x).ay, .int .i64 (mixT ⟨X.p, ⟨X.r0, X.r1, X.r2, X.r3⟩⟩ ⟨X.q, ⟨X.w0, X.w1, X.w2, X.w3⟩⟩ X.x).bx, .int .i64 (mixT ⟨X.p, ⟨X.r0, X.r1, X.r2, X.r3⟩⟩ ⟨X.q, ⟨X.w0, X.w1, X.w2, X.w3⟩⟩ X.x).cy])) := by kernel_rfl
/-- The region, whatever order comes up. -/
theorem ALR.run (X : ALR) (ok : ALROk X) {Q : Exit → Act → World → Prop} (w : World) (h0 : X.Wd 0 (fun _ => undef) w.drew) (hend : ∀ (γ : Nat → Value) w', X.Wd 1 γ w' → Q .normal (((((((X.a0.put (some 29) (.slice (some ⟨X.gb, X.go, none⟩) X.n X.c)).put (some 30) (.int .i64 (X.k : Int))).put (some 31) (.pointer (some ⟨X.gb, X.go + X.k * 5, none⟩))).put (some 32) (.agg #[.int .i64 X.p, .int .i64 X.r0, .int .i64 X.r1, .int .i64 X.r2, .int .i64 X.r3])).put (some 33) (.agg #[.int .i64 X.q, .int .i64 X.w0, .int .i64 X.w1, .int .i64 X.w2, .int .i64 X.w3])).put (some 34) (.int .i64 X.x)).put (some 35) (.agg #[.int .i64 (mixT ⟨X.p, ⟨X.r0, X.r1, X.r2, X.r3⟩⟩ ⟨X.q, ⟨X.w0, X.w1, X.w2, X.w3⟩⟩ X.x).ax, .int .i64 (mixT ⟨X.p, ⟨X.r0, X.r1, X.r2, X.r3⟩⟩ ⟨X.q, ⟨X.w0, X.w1, X.w2, X.w3⟩⟩ X.x).ay, .int .i64 (mixT ⟨X.p, ⟨X.r0, X.r1, X.r2, X.r3⟩⟩ ⟨X.q, ⟨X.w0, X.w1, X.w2, X.w3⟩⟩ X.x).bx, .int .i64 (mixT ⟨X.p, ⟨X.r0, X.r1, X.r2, X.r3⟩⟩ ⟨X.q, ⟨X.w0, X.w1, X.w2, X.w3⟩⟩ X.x).cy])) w') : (Code.region 7 (opsOf 7 Try.f67) true).wp Try.prog Q X.a0 w := by
  refine reg_act (acts := ALR.acts) (av := ALR.av) (val0 := X.val0) (Wd := X.Wd) (by kernel_rfl) (by kernel_rfl) (by rw [ALR.size]; decide) (fun i hi => ALR.steps X ok i hi) _ h0 ?_
  intro γ w' h
  rw [ALR.puts]
  exact hend γ w' h
theorem sp_le {l : List Stp} (h : ∀ k, k < l.length → spOk l k = true) : ∀ (d i : Nat), i + d < l.length → (spAt l i).p ≤ (spAt l (i + d)).p
  | 0, _, _ => Int.le_refl _
  | d + 1, i, hi => by
    have h1 := sp_le h d i (by omega)
    have h2 := h (i + d + 1) (by omega)
    unfold spOk at h2
    simp only [Bool.and_eq_true, Bool.or_eq_true, decide_eq_true_eq, Nat.add_sub_cancel] at h2
    rcases h2.2.2 with h3 | h3
    · omega
    · exact Int.le_trans h1 h3
theorem rnT_first {l : List Stp} {x : Int} (h : x ≤ (spAt l 0).p) : rnT l x = (spAt l 0).t := by unfold rnT; rw [if_pos h]
theorem rnT_last {l : List Stp} {x : Int} (h : ¬ x ≤ (spAt l 0).p) (h2 : (spAt l (l.length - 1)).p ≤ x) : rnT l x = (spAt l (l.length - 1)).t := by unfold rnT; rw [if_neg h, if_pos h2]
theorem rnT_mid {l : List Stp} {x : Int} {k : Nat} (hg : ∀ k, k < l.length → spOk l k = true) (h : ¬ x ≤ (spAt l 0).p) (hk : k + 1 < l.length) (hb : ∀ i, i < k → (spAt l (i + 1)).p ≤ x) (hn : x < (spAt l (k + 1)).p) : rnT l x = mixT (spAt l k) (spAt l (k + 1)) x := by
  have h2 : ¬ (spAt l (l.length - 1)).p ≤ x := by
    have := sp_le hg (l.length - 1 - (k + 1)) (k + 1) (by omega)
    rw [show k + 1 + (l.length - 1 - (k + 1)) = l.length - 1 by omega] at this
    omega
  unfold rnT
  rw [if_neg h, if_neg h2, rnK_of hk hb (by omega)]
set_option maxRecDepth 100000 in
set_option maxHeartbeats 8000000 in
theorem ialong (w : World) (a : Option Addr) (c : Nat) (l : List Stp) (x : Int) (hg : sgB l = true) (hx : 0 ≤ x ∧ x ≤ 65536) (hcap : l.length ≤ c) (hr : Stps w a l) :
    Calls Try.prog 67 #[.slice a l.length c, .int .i64 x] w fun e w' => e = .returned (edV (rnT l x)) ∧ Kp w w' := by
  have HG : Hid (∀ k, k < l.length → spOk l k = true) := fun k hk => sgB_at hg k hk
  have hlen : 1 ≤ l.length ∧ l.length ≤ 8 := by
    unfold sgB at hg
    rw [Bool.and_eq_true] at hg
    have := hg.1
    unfold inN at this
    simp at this
    omega
  clear hg
  obtain ⟨W, hW⟩ : ∃ W, w.alloc (.cells #[.int .i64 0, .int .i64 0, .int .i64 0, .int .i64 0] 24) = W := ⟨_, rfl⟩
  have KW : Hid (Kp w W) := by show Kp w W; rw [← hW]; exact (Kp.refl w).alloc _ _
  have HZ : Hid (QB W w.heap.size noE) := by show QB _ _ _; rw [← hW]; exact QB.new w noE 24
  have HR : Hid (Stps W a l) := hr.nw KW.out.nw
  have HAT : Hid (∃ b off, a = some ⟨b, off, none⟩ ∧ ∀ w1, Nw W w1 → ∀ i, i < l.length → w1.cell? ⟨b, off + i * 5, none⟩ = some (.int .i64 (spAt l i).p) ∧ w1.cell? ⟨b, off + i * 5 + 1, none⟩ = some (.int .i64 (spAt l i).t.ax) ∧ w1.cell? ⟨b, off + i * 5 + 2, none⟩ = some (.int .i64 (spAt l i).t.ay) ∧ w1.cell? ⟨b, off + i * 5 + 3, none⟩ = some (.int .i64 (spAt l i).t.bx) ∧ w1.cell? ⟨b, off + i * 5 + 4, none⟩ = some (.int .i64 (spAt l i).t.cy)) := by
    show ∃ _, _
    rcases HR.out with h | ⟨b, off, rfl, hb, hc⟩
    · rw [h] at hlen; simp at hlen
    · refine ⟨b, off, rfl, fun w1 k i hi => ?_⟩
      rcases Stps.nw HR.out k with h | ⟨b', off', e, hb', hc'⟩
      · rw [h] at hi; simp at hi
      · injection e with e; injection e with e1 e2
        subst e1 e2
        exact hc' i hi
  have HW : Hid (_ = W) := hW
  clear hW hr
  obtain ⟨b, off, rfl, hat⟩ := HAT.out
  have HC : Hid _ := hat
  clear hat HAT HR
  obtain ⟨n, hn⟩ : ∃ n, l.length = n := ⟨_, rfl⟩
  have HN : Hid (l.length = n) := hn
  rw [hn] at hlen HG HC hcap ⊢
  clear hn
  obtain ⟨p0, s1, s2, s3, s4⟩ := HC.out W (Kp.nw (Kp.refl W)) 0 (by omega)
  simp only [Nat.zero_mul, Nat.add_zero] at p0 s1 s2 s3 s4
  by_cases hf : x ≤ (spAt l 0).p
  · have hV := rnT_first hf
    obtain ⟨V, hv⟩ : ∃ V, (spAt l 0).t = V := ⟨_, rfl⟩
    rw [hv] at hV s1 s2 s3 s4
    have HV : Hid (rnT l x = V) := hV
    generalize (spAt l 0).p = pp at *
    have hd : decide (x ≤ pp) = true := decide_eq_true hf
    obtain ⟨v0, v1, v2, v3⟩ := V
    rw [← HW.out] at p0 s1 s2 s3 s4
    simp only at s1 s2 s3 s4
    clear hv hV hf HC
    go_enter Try.func67, Try.ntmps67
    go_wp2
    refine bodyPost_ret (v := .agg #[.int .i64 v0, .int .i64 v1, .int .i64 v2, .int .i64 v3]) (by simp [results, Try.results67, go_sem]) rfl ⟨by rw [HV.out], ?_⟩
    exact (Kp.refl w).alloc _ _
  · have HF : Hid (¬ x ≤ (spAt l 0).p) := hf
    obtain ⟨pp, hpp⟩ : ∃ pp, (spAt l 0).p = pp := ⟨_, rfl⟩
    rw [hpp] at p0 hf
    have HPP : Hid ((spAt l 0).p = pp) := hpp
    have hd : decide (x ≤ pp) = false := decide_eq_false hf
    clear hpp hf s1 s2 s3 s4
    rw [← HW.out] at p0
    have hsl : (n : Int) - 1 = ((n - 1 : Nat) : Int) := by omega
    have HSL : Hid ((n : Int) - 1 = ((n - 1 : Nat) : Int)) := hsl
    clear hsl
    by_cases hc1 : c = 1
    · have hn1 : n = 1 := by omega
      subst hn1
      subst hc1
      go_enter Try.func67, Try.ntmps67
      go_wp2
      rw [HW.out]
      clear p0 hd
      go_loopw [20] (fun i wr => ∃ k : Nat, k ≤ (1 - 1) ∧ i = .int .i64 (k : Int) ∧ (∀ i, i < k → (spAt l (i + 1)).p ≤ x) ∧ Kp W wr) (fun i _ => (1 - 1) - (intOf i).toNat)
      case atStart => exact ⟨0, Nat.zero_le _, rfl, fun i hi => absurd hi (by omega), Kp.refl _⟩
      case round =>
        obtain ⟨k, hk, rfl, hbel, hw⟩ := hrel
        have HBE : Hid _ := hbel
        have HWR : Hid (Kp W wr) := hw
        clear hbel hw
        by_cases hlt : k < (1 - 1)
        · exact absurd hlt (by omega)
        · have hkn : k = (1 - 1) := by omega
          subst hkn
          have hlast : rnT l x = (spAt l (1 - 1)).t := by
            have h2 : (spAt l (l.length - 1)).p ≤ x := by
              rw [HN.out]
              by_cases h1 : 1 = 1
              · have := HF.out
                rw [show 1 - 1 = 0 by omega]
                omega
              · have := HBE.out (1 - 1 - 1) (by omega)
                rw [show 1 - 1 - 1 + 1 = 1 - 1 by omega] at this
                exact this
            have := rnT_last (Int.not_le.2 HF.out) h2
            rw [HN.out] at this
            exact this
          obtain ⟨_, s1, s2, s3, s4⟩ := HC.out wr HWR.out.nw (1 - 1) (by omega)
          obtain ⟨V, hv⟩ : ∃ V, (spAt l (1 - 1)).t = V := ⟨_, rfl⟩
          rw [hv] at hlast s1 s2 s3 s4
          have HV : Hid (rnT l x = V) := hlast
          obtain ⟨v0, v1, v2, v3⟩ := V
          simp only at s1 s2 s3 s4
          clear hv hlast HBE
          obtain ⟨z0, z1, z2, z3, zf⟩ := QB.nw HZ.out HWR.out.nw
          simp only [noE] at z0 z1 z2 z3
          obtain ⟨y0, y1, y2, y3⟩ := set4 wr w.heap.size (.int .i64 v0) (.int .i64 v1) (.int .i64 v2) (.int .i64 v3) z0 z1 z2 z3
          go_wp2
          refine bodyPost_ret (v := .agg #[.int .i64 v0, .int .i64 v1, .int .i64 v2, .int .i64 v3]) (by simp [results, Try.results67, go_sem, y0, y1, y2, y3]) rfl ⟨by rw [HV.out], ?_⟩
          exact ((((Kp.trans KW.out HWR.out).setCell (by first | (simp; done) | (simp; omega)) _).setCell (by first | (simp; done) | (simp; omega)) _).setCell (by first | (simp; done) | (simp; omega)) _).setCell (by first | (simp; done) | (simp; omega)) _
    · have hc2 : ¬ c = 1 := hc1
      clear hc1
      go_enter Try.func67, Try.ntmps67
      go_wp2
      rw [HW.out]
      clear p0 hd
      go_loopw [20] (fun i wr => ∃ k : Nat, k ≤ (n - 1) ∧ i = .int .i64 (k : Int) ∧ (∀ i, i < k → (spAt l (i + 1)).p ≤ x) ∧ Kp W wr) (fun i _ => (n - 1) - (intOf i).toNat)
      case atStart => exact ⟨0, Nat.zero_le _, rfl, fun i hi => absurd hi (by omega), Kp.refl _⟩
      case round =>
        obtain ⟨k, hk, rfl, hbel, hw⟩ := hrel
        have HBE : Hid _ := hbel
        have HWR : Hid (Kp W wr) := hw
        clear hbel hw
        by_cases hlt : k < (n - 1)
        · have hk1 : k + 1 < n := by omega
          obtain ⟨p0, p1, p2, p3, p4⟩ := HC.out wr HWR.out.nw (k + 1) hk1
          rw [show off + (k + 1) * 5 = off + 5 + k * 5 by omega] at p0 p1 p2 p3 p4
          have HKN : Hid (k < n) := by show k < n; omega
          obtain ⟨oka, tka⟩ := spOk_some (HG.out k (by omega))
          obtain ⟨okb, tkb⟩ := spOk_some (HG.out (k + 1) hk1)
          have HPA : Hid ((spAt l k).p ≤ x) := by
            show _ ≤ _
            by_cases h0 : k = 0
            · rw [h0]; have := HF.out; omega
            · have := HBE.out (k - 1) (by omega)
              rw [show k - 1 + 1 = k by omega] at this
              exact this
          have HMID : Hid (x < (spAt l (k + 1)).p → rnT l x = mixT (spAt l k) (spAt l (k + 1)) x) := fun h => rnT_mid (fun i hi => HG.out i (by rw [← HN.out]; exact hi)) (Int.not_le.2 HF.out) (by rw [HN.out]; exact hk1) HBE.out h
          have HYA : Hid (∀ w1, Nw W w1 → _) := fun w1 h => HC.out w1 h k HKN.out
          have HSTEP : Hid ((spAt l (k + 1)).p ≤ x → ∀ i, i < k + 1 → (spAt l (i + 1)).p ≤ x) := fun h i hi => by
            rcases Nat.lt_succ_iff_lt_or_eq.1 hi with h1 | h1
            · exact HBE.out i h1
            · rw [h1]; exact h
          have HOA : Hid _ := oka
          have HTA : Hid _ := tka
          have HOB : Hid _ := okb
          have HTB : Hid _ := tkb
          clear oka tka okb tkb
          generalize spAt l k = sa at *
          generalize spAt l (k + 1) = sb at *
          obtain ⟨q, ⟨u0, u1, u2, u3⟩⟩ := sb
          simp only at p0 p1 p2 p3 p4 HOB HTB HMID HSTEP
          by_cases hxq : x < q
          · have hdq : decide (x < q) = true := decide_eq_true hxq
            have HV : Hid (rnT l x = mixT sa ⟨q, ⟨u0, u1, u2, u3⟩⟩ x) := HMID.out hxq
            have HXQ : Hid (x < q) := hxq
            clear hxq HMID HSTEP HBE
            go_wp2
            obtain ⟨W3, hW3⟩ : ∃ W3, wr.alloc (.cells #[.int .i64 q, .int .i64 u0, .int .i64 u1, .int .i64 u2, .int .i64 u3] 106) = W3 := ⟨_, rfl⟩
            have PU : Hid (SB W3 wr.heap.size ⟨q, ⟨u0, u1, u2, u3⟩⟩) := by show SB _ _ _; rw [← hW3]; exact SB.new wr ⟨q, ⟨u0, u1, u2, u3⟩⟩ _
            have K3 : Hid (Kp W W3) := by show Kp _ _; rw [← hW3]; exact Kp.alloc HWR.out _ _
            rw [hW3]
            clear hW3 p0 p1 p2 p3 p4 hdq
            have K3d : Hid (Kp W W3.drew) := K3.out.drew
            obtain ⟨s0, s1, s2, s3, s4⟩ := SB.nw PU.out ((Below.refl _ _).drew : Nw W3 W3.drew)
            obtain ⟨t0, t1, t2, t3, t4⟩ := HYA.out _ K3d.out.nw
            obtain ⟨z0, z1, z2, z3, zf⟩ := QB.nw HZ.out K3d.out.nw
            obtain ⟨sp, ⟨e0, e1, e2, e3⟩⟩ := sa
            refine reg_change (ops' := opsOf 7 Try.f67) (by kernel_rfl) ?_
            refine ALR.run ⟨k, wr.heap.size, w.heap.size, b, off, n, c, x, sp, e0, e1, e2, e3, q, u0, u1, u2, u3, W3.drew, _⟩ ⟨s0, s1, s2, s3, s4, HKN.out, t0, t1, t2, t3, t4, HOA.out, HOB.out, HTA.out, HTB.out, HPA.out, HXQ.out, ⟨_, z0⟩, ⟨_, z1⟩, ⟨_, z2⟩, ⟨_, z3⟩, zf, rfl, rfl, rfl, rfl, rfl, rfl⟩ W3 (Kp.refl _) ?_
            rintro γ w5 ⟨w4, k4, rfl⟩
            have K4 : Hid (Kp W w4) := Kp.trans K3.out (undrew k4)
            clear k4 z0 z1 z2 z3 zf s0 s1 s2 s3 s4 t0 t1 t2 t3 t4
            obtain ⟨z0, z1, z2, z3, zf⟩ := QB.nw HZ.out K4.out.nw
            simp only [noE] at z0 z1 z2 z3
            simp only [Act.put, List.setIfInBounds_toArray, List.set_cons_zero, List.set_cons_succ]
            obtain ⟨V, hV⟩ : ∃ V, mixT ⟨sp, ⟨e0, e1, e2, e3⟩⟩ ⟨q, ⟨u0, u1, u2, u3⟩⟩ x = V := ⟨_, rfl⟩
            rw [hV] at HV ⊢
            obtain ⟨v0, v1, v2, v3⟩ := V
            simp only
            clear hV HOA HTA HPA HOB HTB HXQ HYA
            obtain ⟨y0, y1, y2, y3⟩ := set4 w4 w.heap.size (.int .i64 v0) (.int .i64 v1) (.int .i64 v2) (.int .i64 v3) z0 z1 z2 z3
            go_wp2
            refine bodyPost_ret (v := .agg #[.int .i64 v0, .int .i64 v1, .int .i64 v2, .int .i64 v3]) (by simp [results, Try.results67, go_sem, y0, y1, y2, y3]) rfl ⟨by rw [HV.out], ?_⟩
            exact ((((Kp.trans KW.out K4.out).setCell (by first | (simp; done) | (simp; omega)) _).setCell (by first | (simp; done) | (simp; omega)) _).setCell (by first | (simp; done) | (simp; omega)) _).setCell (by first | (simp; done) | (simp; omega)) _
          · have hdq : decide (x < q) = false := decide_eq_false hxq
            have HST : Hid _ := HSTEP.out (by omega)
            clear hxq HMID HSTEP HBE
            go_wp2
            go_roundw
            case rel => exact ⟨k + 1, by omega, by go_num, HST.out, Kp.alloc HWR.out _ _⟩
            case measure => simp [intOf]; omega
        · have hkn : k = (n - 1) := by omega
          subst hkn
          have hlast : rnT l x = (spAt l (n - 1)).t := by
            have h2 : (spAt l (l.length - 1)).p ≤ x := by
              rw [HN.out]
              by_cases h1 : n = 1
              · have := HF.out
                rw [show n - 1 = 0 by omega]
                omega
              · have := HBE.out (n - 1 - 1) (by omega)
                rw [show n - 1 - 1 + 1 = n - 1 by omega] at this
                exact this
            have := rnT_last (Int.not_le.2 HF.out) h2
            rw [HN.out] at this
            exact this
          obtain ⟨_, s1, s2, s3, s4⟩ := HC.out wr HWR.out.nw (n - 1) (by omega)
          obtain ⟨V, hv⟩ : ∃ V, (spAt l (n - 1)).t = V := ⟨_, rfl⟩
          rw [hv] at hlast s1 s2 s3 s4
          have HV : Hid (rnT l x = V) := hlast
          obtain ⟨v0, v1, v2, v3⟩ := V
          simp only at s1 s2 s3 s4
          clear hv hlast HBE
          obtain ⟨z0, z1, z2, z3, zf⟩ := QB.nw HZ.out HWR.out.nw
          simp only [noE] at z0 z1 z2 z3
          have hsl := HSL.out
          obtain ⟨y0, y1, y2, y3⟩ := set4 wr w.heap.size (.int .i64 v0) (.int .i64 v1) (.int .i64 v2) (.int .i64 v3) z0 z1 z2 z3
          go_wp2
          refine bodyPost_ret (v := .agg #[.int .i64 v0, .int .i64 v1, .int .i64 v2, .int .i64 v3]) (by simp [results, Try.results67, go_sem, y0, y1, y2, y3]) rfl ⟨by rw [HV.out], ?_⟩
          exact ((((Kp.trans KW.out HWR.out).setCell (by first | (simp; done) | (simp; omega)) _).setCell (by first | (simp; done) | (simp; omega)) _).setCell (by first | (simp; done) | (simp; omega)) _).setCell (by first | (simp; done) | (simp; omega)) _
end Go.Proofs.Ythlohbiocfeapaa

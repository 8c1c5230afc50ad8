/-
  What the specification's l2Stored and PackStoredOf answer, and both functions where there is too much data; each theorem names its conditions.
  What the specification's l2PackFixed answers: the bytes of the block; its conditions stand in the theorem.
  What PackBest answers, of the program and of the specification; each theorem names its conditions.
  What was packed is unpacked by the program; each theorem names its conditions.
-/
import Derived.Test.YtaeicgfebeliiaaDoorJAL
namespace Go.Proofs.YtaeicgfebeliiaaDoor
open Go.ChangeShapes Go.WideShapes Go.ChangeAt Go.RowKit
set_option linter.unusedVariables false

theorem not_i64 (n : Nat) (h : n < 65536) : bits .xor .i64 (-1) (n : Int) = -(n : Int) - 1 := by
  have ha : n % 2 ^ IntKind.i64.bits = n := Nat.mod_eq_of_lt (by show n < 2 ^ 64; omega)
  have hm : BitVec.ofInt IntKind.i64.bits (-1) = BitVec.allOnes IntKind.i64.bits := rfl
  simp only [bits, BitVec.ofInt_natCast, hm]
  have e : (BitVec.allOnes IntKind.i64.bits ^^^ BitVec.ofNat IntKind.i64.bits n).toNat = 18446744073709551615 - n := by
    rw [BitVec.allOnes_xor, BitVec.toNat_not, BitVec.toNat_ofNat, ha]; rfl
  rw [e, IntKind.wrap_i64]; omega
theorem bc_add (W : World) (b : Nat) (ds : List Nat) (hc : ∀ i, i < ds.length → W.cell? ⟨b, 0 + i, none⟩ = some (.int .u8 ((ds.getD i 0 : Nat) : Int))) : ∀ j u, (bc ds)[j]? = some u → W.cell? ((⟨b, 0, none⟩ : Addr).add j) = some u := by
  intro j u hj
  by_cases h : j < ds.length
  · have h2 := hc j h
    have e : u = .int .u8 ((ds.getD j 0 : Nat) : Int) := by
      simp [bc, h] at hj; simp [h]; exact hj.symm
    rw [e, ← h2]
    congr 1
    by_cases h0 : j = 0
    · subst h0; simp [Addr.add]
    · simp [Addr.add, h0]
  · simp [bc] at hj
    obtain ⟨x, hx, _⟩ := hj
    rw [List.getElem?_eq_none (by omega)] at hx
    cases hx

set_option maxHeartbeats 4000000 in
theorem sl2stored (W : World) (b cap : Nat) (ds : List Nat) (hl : ds.length ≤ 6000) (hb : b < W.heap.size) (hc : ∀ i, i < ds.length → W.cell? ⟨b, 0 + i, none⟩ = some (.int .u8 ((ds.getD i 0 : Nat) : Int))) :
    Calls Tryd.prog 42 #[.slice (some ⟨b, 0, none⟩) ds.length cap] W fun e w' => ∃ g c, e = .returned (.slice (some ⟨g, 0, none⟩) (stored ds).length c) ∧ Gave W w' g (stored ds) c := by
  obtain ⟨i0, hi, hz0, hz1, hz2⟩ := info_parts Tryd.info5
  have HC : Hid _ := hc
  clear hc
  have hxn : bits .xor .i64 (if IntKind.i64.signed = true then -1 else 9223372036854775807) (ds.length : Int) = -(ds.length : Int) - 1 := not_i64 ds.length (by omega)
  have HW : Hid (∀ j u, (bc ds)[j]? = some u → (W.alloc (.cells #[.int .u8 1, .int .u8 ((ds.length : Int) % 256), .int .u8 ((ds.length : Int) / 256), .int .u8 ((-(ds.length : Int) - 1) % 256), .int .u8 ((-(ds.length : Int) - 1) / 256 % 256)] 5)).cell? ((⟨b, 0, none⟩ : Addr).add j) = some u) := by
    apply bc_add
    intro i hi
    rw [World.cell?_alloc_past _ _ _ hb]
    exact HC.out i hi
  have HO : Hid ((W.alloc (.cells #[.int .u8 1, .int .u8 ((ds.length : Int) % 256), .int .u8 ((ds.length : Int) / 256), .int .u8 ((-(ds.length : Int) - 1) % 256), .int .u8 ((-(ds.length : Int) - 1) / 256 % 256)] 5)).ownsRow W.heap.size 5 1 (.slice (some ⟨W.heap.size, 0, none⟩) 5 5) 5 [.int .u8 1, .int .u8 ((ds.length : Int) % 256), .int .u8 ((ds.length : Int) / 256), .int .u8 ((-(ds.length : Int) - 1) % 256), .int .u8 ((-(ds.length : Int) - 1) / 256 % 256)]) :=
    World.ownsRow_lit W _ 5 (Nat.le_refl _) (by decide) rfl
  have HE : Hid ([.int .u8 1, .int .u8 ((ds.length : Int) % 256), .int .u8 ((ds.length : Int) / 256), .int .u8 ((-(ds.length : Int) - 1) % 256), .int .u8 ((-(ds.length : Int) - 1) / 256 % 256)] ++ bc ds = bc (stored ds)) := by
    have v1 : ((ds.length : Int) % 256) = ((ds.length % 256 : Nat) : Int) := by omega
    have v2 : ((ds.length : Int) / 256) = ((ds.length / 256 : Nat) : Int) := by omega
    have v3 : ((-(ds.length : Int) - 1) % 256) = (((65535 - ds.length) % 256 : Nat) : Int) := by omega
    have v4 : ((-(ds.length : Int) - 1) / 256 % 256) = (((65535 - ds.length) / 256 : Nat) : Int) := by omega
    show _ = _
    rw [v1, v2, v3, v4]
    rfl
  have HLs : Hid (5 + ds.length = (stored ds).length) := by show _ = _; simp [stored]; omega
  have hbcl : (bc ds).length = ds.length * 1 := by simp [bc]
  have hone : ∀ u ∈ bc ds, u.oneCell' = true := by
    intro u hu
    simp [bc] at hu
    obtain ⟨x, _, rfl⟩ := hu
    rfl
  have H1 : Hid _ := hbcl
  have H2 : Hid _ := hone
  clear hbcl hone
  go_enter Tryd.func42, Tryd.ntmps42
  go_wp2_with (first
    | (at_builtin; (refine wpList_append_own _ rfl _ _ 22 rfl W.heap.size 5 i0 (.int .u8 0) 1 1 Tryd.underlying22 hi hz0 hz1 hz2 rfl (by decide) _ _ _ rfl HO.out ⟨b, 0, none⟩ ds.length cap (bc ds) rfl H1.out HW.out H2.out ?c3 ?c4 ?c5 ?_))
    | go_in)
  case c3 => unfold maxLen; omega
  case c4 => omega
  case c5 => simp
  intro v' w1 hown' hgrow hnn
  have hown2 : w1.ownsRow W.heap.size 5 1 v' (stored ds).length (bc (stored ds)) := by
    rw [← HLs.out, ← HE.out]; exact hown'
  rcases hown2.2 with ⟨h, _⟩ | ⟨g, cap', cur, rfl, hg1, hg2, hg3, hg4, hg5, hg6⟩
  · exact absurd h hnn
  have HG : Hid (Gave W w1 g (stored ds) cap') := by
    refine ⟨?_, hg1, hown2⟩
    refine ((Below.refl W.heap.size W).alloc (Nat.le_refl _) (.cells #[.int .u8 1, .int .u8 ((ds.length : Int) % 256), .int .u8 ((ds.length : Int) / 256), .int .u8 ((-(ds.length : Int) - 1) % 256), .int .u8 ((-(ds.length : Int) - 1) / 256 % 256)] 5)).trans ⟨hgrow.os, hgrow.tape, hgrow.output, hgrow.size, fun k hk => hgrow.block k (by simp; omega) (fun e => ?_)⟩
    simp [Value.ownBlock] at e
    omega
  clear hown2 hown' hgrow hg2 hg5 hg6 HW HO HE
  go_wp2
  go_ret
  exact ⟨_, _, rfl, HG.out⟩

end Go.Proofs.YtaeicgfebeliiaaDoor
namespace Go.Proofs.YtaeicgfebeliiaaDoor
open Go.ChangeShapes Go.WideShapes Go.ChangeAt Go.RowKit
set_option linter.unusedVariables false

/-- The bits xs have been laid down. -/
def SX (w : World) (S : Nat) (xs : List Nat) : Prop := SB w S (puts ([], 0) xs).1 xs.length
theorem sx_eq (xs : List Nat) : puts ([], 0) xs = ((puts ([], 0) xs).1, xs.length % 8) := by
  have h := puts_u [] 0 xs
  rw [Nat.zero_add] at h
  rw [← h]
theorem sx_code (W : World) (S : Nat) (xs : List Nat) (n k : Nat) (hn : n < 65536) (hk : k ≤ 16) (hl : xs.length ≤ 800000) (hx : ∀ x ∈ xs, x ≤ 1) (hs : SX W S xs) :
    Calls Tryd.prog 75 #[.pointer (some ⟨S, 0, none⟩), .int .i64 n, .int .i64 k] W fun e w' => e = .returned (.tuple #[]) ∧ SX w' S (xs ++ codeOf n k) ∧ Below S W w' := by
  have hp := puts_len ([], 0) xs
  have h := code_any W S (puts ([], 0) xs).1 xs.length n k hn hk (by omega) (by simp at hp; omega) (by rw [← sx_eq]; exact fine_puts _ _ fine0 hx) hs
  rw [← sx_eq, ← puts_append] at h
  unfold SX
  rw [List.length_append, codeOf_len]
  exact h
theorem sx_num (W : World) (S : Nat) (xs : List Nat) (n k : Nat) (hn : n < 65536) (hk : k ≤ 16) (hl : xs.length ≤ 800000) (hx : ∀ x ∈ xs, x ≤ 1) (hs : SX W S xs) :
    Calls Tryd.prog 73 #[.pointer (some ⟨S, 0, none⟩), .int .i64 n, .int .i64 k] W fun e w' => e = .returned (.tuple #[]) ∧ SX w' S (xs ++ bitsOf n k) ∧ Below S W w' := by
  have hp := puts_len ([], 0) xs
  have h := number_any W S (puts ([], 0) xs).1 xs.length n k hn hk (by omega) (by simp at hp; omega) (by rw [← sx_eq]; exact fine_puts _ _ fine0 hx) hs
  rw [← sx_eq, ← puts_append] at h
  unfold SX
  rw [List.length_append, bitsOf_len]
  exact h
theorem sb_new (W : World) : SX (W.alloc (.cells #[.slice none 0 0, .int .i64 0] 108)) W.heap.size [] := by
  refine ⟨.slice none 0 0, by simp, by simp, fun o => World.frozen?_alloc_at _ _ _ _ rfl, by simp, World.ownsRow_nil _ _ _ _⟩
theorem dn_hit (f : Nat → Nat) (n K : Nat) (h : f K ≤ n) : dn f n K = K := by
  cases K with
  | zero => rfl
  | succ K => unfold dn; rw [if_pos h]
theorem dn_miss (f : Nat → Nat) (n K : Nat) (h : ¬ f (K + 1) ≤ n) : dn f n (K + 1) = dn f n K := by
  show (if f (K + 1) ≤ n then K + 1 else dn f n K) = _; rw [if_neg h]
theorem sfixed_codes (W : World) (b cap : Nat) (hb : b < W.heap.size) (hc : ∀ i, i < 288 → W.cell? ⟨b, 0 + i, none⟩ = some (.int .i64 (fl i))) : Calls Tryd.prog 72 #[.slice (some ⟨b, 0, none⟩) 288 cap] W fun e w' => e = .returned (.slice (some ⟨W.heap.size, 0, none⟩) 288 288) ∧ w' = W.alloc (.cells (cellsOf .i64 (codesL fixedL)) 3) := by
  have h := scodes_any W b 0 cap fixedL fixed_fit hb (fun i hi => by rw [fixedL_len] at hi; rw [fixedL_get i hi]; exact hc i hi)
  rw [fixedL_len] at h
  exact h

set_option maxRecDepth 100000 in
set_option maxHeartbeats 8000000 in
theorem sfixA (W : World) (a : Option Addr) (b cap : Nat) (zs : List Int) (J : Nat) (hJ : Ends zs J) (hl : zs.length ≤ 6000) (h8 : ∀ i, i < zs.length → 0 ≤ zs.getD i 0 ∧ zs.getD i 0 ≤ 255) (hb : b < W.heap.size) (hc : ∀ i, i < zs.length → W.cell? ⟨b, 0 + i, none⟩ = some (.int .u8 (zs.getD i 0))) (hnil : zs = [] ∨ a = some ⟨b, 0, none⟩) :
    Calls Tryd.prog 41 #[.slice a zs.length cap] W fun e w' => ∃ g c, e = .returned (.slice (some ⟨g, 0, none⟩) (outB zs J).length c) ∧ Gave W w' g (outB zs J) c := by
  have HC : Hid _ := hc
  have H8 : Hid _ := h8
  have HJ : Hid (Ends zs J) := hJ
  have HNil : Hid (zs = [] ∨ a = some ⟨b, 0, none⟩) := hnil
  clear hc h8 hJ hnil
  go_enter Tryd.func41, Tryd.ntmps41
  go_wp2_with fail
  refine Calls.mono (l2Fixed_any W) ?_
  rintro e w1 ⟨gl, cl, rfl, hgl⟩
  obtain ⟨b1, zl, o1⟩ := hgl
  rw [fixedL_len] at o1
  have hgl1 := (o1.lt gl rfl).2
  have CL1 : ∀ i, i < 288 → w1.cell? ⟨gl, 0 + i, none⟩ = some (.int .i64 (fl i)) := fun i hi => by
    rw [Nat.zero_add, o1.cellAt i (by omega)]
    have : i < fixedL.length := by rw [fixedL_len]; exact hi
    have e := fixedL_get i hi
    simp [ic, this] at e ⊢
    exact e
  have HCS : Hid _ := sfixed_codes w1 gl cl hgl1 CL1
  have HCL1 : Hid _ := CL1
  have HB1 : Hid (Below W.heap.size W w1) := b1
  clear o1 CL1 b1
  go_wp2_with fail
  refine Calls.mono HCS.out ?_
  rintro e w2' ⟨rfl, rfl⟩
  have hs1 : w1.heap.size < (w1.alloc (.cells (cellsOf .i64 (codesL fixedL)) 3)).heap.size := by simp
  have KB : Hid (Kp w1 (w1.alloc (.cells (cellsOf .i64 (codesL fixedL)) 3))) := (Kp.refl w1).alloc _ _
  have HBel : Hid (Below W.heap.size W (w1.alloc (.cells (cellsOf .i64 (codesL fixedL)) 3))) := HB1.out.trans (KB.out.1.mono HB1.out.size)
  have CC : Hid (∀ i, i < 288 → (w1.alloc (.cells (cellsOf .i64 (codesL fixedL)) 3)).cell? ⟨w1.heap.size, i, none⟩ = some (.int .i64 (fc i : Int))) := by
    intro i hi
    have h := row_cells3 w1 (codesL fixedL) 3 i (by rw [codesL_len, fixedL_len]; exact hi)
    rw [codesL_get fixedL i (by rw [fixedL_len]; exact hi), (fc_bd i hi).2, Nat.zero_add] at h
    exact h
  have CL : Hid (∀ i, i < 288 → (w1.alloc (.cells (cellsOf .i64 (codesL fixedL)) 3)).cell? ⟨gl, i, none⟩ = some (.int .i64 (fn i : Int))) := by
    intro i hi
    have h := (KB.out.cells.1 gl (0 + i) hgl1).trans (HCL1.out i hi)
    rw [(fn_bd i).2.2, Nat.zero_add] at h
    exact h
  have CD : Hid (∀ i, i < zs.length → (w1.alloc (.cells (cellsOf .i64 (codesL fixedL)) 3)).cell? ⟨b, 0 + i, none⟩ = some (.int .u8 (zs.getD i 0))) := fun i hi => (HBel.out.cell (p := ⟨b, 0 + i, none⟩) hb).trans (HC.out i hi)
  have hsW : W.heap.size ≤ w1.heap.size := HB1.out.size
  clear HC HCS HCL1 HB1 KB
  generalize w1.heap.size = B at *
  generalize w1.alloc (.cells (cellsOf .i64 (codesL fixedL)) 3) = w2 at *
  have HN3 : Hid (∀ a3 : Nat, a3 = 3 → Calls Tryd.prog 73 #[.pointer (some ⟨w2.heap.size, 0, none⟩), .int .i64 (a3 : Int), .int .i64 (a3 : Int)] (w2.alloc (.cells #[.slice none 0 0, .int .i64 0] 108)) fun e w' => e = .returned (.tuple #[]) ∧ SX w' w2.heap.size (acc zs 0) ∧ Below w2.heap.size (w2.alloc (.cells #[.slice none 0 0, .int .i64 0] 108)) w') := by
    intro a3 ha; subst ha; exact sx_num _ _ [] 3 3 (by omega) (by omega) (by simp) (by simp) (sb_new w2)
  go_wp2_with fail
  refine Calls.mono (HN3.out 3 rfl) ?_
  rintro e w3 ⟨rfl, h1, h2⟩
  have HS3 : Hid (SX w3 w2.heap.size (acc zs 0)) := h1
  have HB3 : Hid (Below w2.heap.size w2 w3) := ((Below.refl w2.heap.size w2).alloc (Nat.le_refl _) _).trans h2
  clear h1 h2 HN3
  go_wp2
  go_loopw [6] (fun i wr => ∃ j : Nat, j ≤ J ∧ i = .int .i64 (pos zs j : Int) ∧ SX wr w2.heap.size (acc zs j) ∧ Below w2.heap.size w2 wr) (fun i _ => zs.length - (intOf i).toNat)
  case atStart => exact ⟨0, Nat.zero_le _, rfl, HS3.out, HB3.out⟩
  case round =>
    clear HS3 HB3
    obtain ⟨j, hj, rfl, h1, h2⟩ := hrel
    have HS : Hid (SX wr w2.heap.size (acc zs j)) := h1
    have HB : Hid (Below w2.heap.size w2 wr) := h2
    clear h1 h2
    have hab := acc_bd zs J HJ.out j hj
    have HBi : Hid _ := acc_bits zs j
    by_cases hlt : j < J
    · have hp := HJ.out.2 j hlt
      obtain rfl : a = some ⟨b, 0, none⟩ := HNil.out.resolve_left (fun e => by rw [e] at hp; exact absurd hp (Nat.not_lt_zero _))
      have hd : decide ((pos zs j : Int) < (zs.length : Int)) = true := by simp; omega
      have HM : Hid (Calls Tryd.prog 74 #[.slice (some ⟨b, 0, none⟩) zs.length cap, .int .i64 (pos zs j : Int)] wr fun e w' => e = .returned (.tuple #[.int .i64 (mtA zs (pos zs j)), .int .i64 (mtB zs (pos zs j))]) ∧ ∃ q, w' = wr.drewN q) :=
        smatch_in wr b 0 cap zs (pos zs j) (fun i hi => (HB.out.cell (p := ⟨b, 0 + i, none⟩) (by show b < _; omega)).trans (CD.out i hi)) hl (by omega)
      have hsb := step_bd zs (pos zs j) hp
      have HN : Hid (pos zs (j + 1) = pos zs j + stepN zs (pos zs j)) := rfl
      have HA : Hid (acc zs (j + 1) = acc zs j ++ stepB zs (pos zs j)) := rfl
      by_cases hm : mtA zs (pos zs j) = 0
      · have HSB : Hid (stepB zs (pos zs j) = codeOf (fc (zs.getD (pos zs j) 0).toNat) (fn (zs.getD (pos zs j) 0).toNat)) := by show _ = _; unfold stepB; rw [if_pos hm]
        have HSN : Hid (stepN zs (pos zs j) = 1) := by show _ = _; unfold stepN; rw [if_pos hm]
        have h8 := H8.out (pos zs j) hp
        obtain ⟨d, hdd⟩ := Int.eq_ofNat_of_zero_le h8.1
        have c1 : ∀ W', Below w2.heap.size w2 W' → W'.cell? ⟨b, pos zs j, none⟩ = some (.int .u8 (d : Int)) := fun W' hW => by
          have h := (hW.cell (p := ⟨b, 0 + pos zs j, none⟩) (by show b < _; omega)).trans (CD.out (pos zs j) hp)
          rw [Nat.zero_add, hdd] at h; exact h
        rw [hdd] at HSB h8
        have hd256 : d < 256 := by omega
        rw [Int.toNat_natCast] at HSB
        have HP : Hid (∀ W', SX W' w2.heap.size (acc zs j) → Calls Tryd.prog 75 #[.pointer (some ⟨w2.heap.size, 0, none⟩), .int .i64 (fc d : Int), .int .i64 (fn d : Int)] W' fun e w' => e = .returned (.tuple #[]) ∧ SX w' w2.heap.size (acc zs (j + 1)) ∧ Below w2.heap.size W' w') := by
          intro W' h
          rw [HA.out, HSB.out]
          exact sx_code W' _ _ (fc d) (fn d) (by have := (fc_bd d (by omega)).1; omega) (by have := fn_bd d; omega) (by omega) HBi.out h
        have HN2 : Hid (pos zs (j + 1) = pos zs j + 1) := by show _ = _; rw [HN.out, HSN.out]
        have e1 : wr.cell? ⟨b, pos zs j, none⟩ = some (.int .u8 (d : Int)) := c1 wr HB.out
        have e2 : wr.cell? ⟨B, d, none⟩ = some (.int .i64 (fc d : Int)) := (HB.out.cell (p := ⟨B, d, none⟩) hs1).trans (CC.out d (by omega))
        have e3 : wr.cell? ⟨gl, d, none⟩ = some (.int .i64 (fn d : Int)) := (HB.out.cell (p := ⟨gl, d, none⟩) (by show gl < _; omega)).trans (CL.out d (by omega))
        have d288 : (d : Int) < 288 := by omega
        clear c1 HSB HSN HA HN h8 hdd
        generalize fc d = fcd at *
        generalize fn d = fnd at *
        rw [hm] at HM
        generalize mtB zs (pos zs j) = mb at *
        generalize hP : pos zs j = P at *
        have HPp : Hid _ := hP
        clear hP
        go_wp2_with fail
        refine Calls.mono HM.out ?_
        rintro e w4 ⟨rfl, q, rfl⟩
        go_wp2
        go_region_held3 (fun w' => w'.cell? ⟨b, P, none⟩ = some (.int .u8 (d : Int)) ∧ w'.cell? ⟨B, d, none⟩ = some (.int .i64 (fcd : Int)) ∧ w'.cell? ⟨gl, d, none⟩ = some (.int .i64 (fnd : Int)))
          (first | exact ⟨e1, e2, e3⟩ | exact ⟨(HB5.out.cell (p := ⟨b, P, none⟩) (by show b < _; omega)).trans e1, (HB5.out.cell (p := ⟨B, d, none⟩) hs1).trans e2, (HB5.out.cell (p := ⟨gl, d, none⟩) (by show gl < _; omega)).trans e3⟩)
          (first
            | (go_at_call 75; refine Calls.mono (HP.out _ ?_) ?_; exact HS.out; rintro e w5 ⟨rfl, hs5, hb5⟩; have HS5 : Hid (SX w5 w2.heap.size (acc zs (j + 1))) := hs5; have HB5 : Hid (Below w2.heap.size wr w5) := (below_dn _ wr _).trans hb5; clear hs5 hb5))
        go_wp2
        go_roundw
        case rel => exact ⟨j + 1, by omega, by rw [HN2.out]; go_num, HS5.out, HB.out.trans HB5.out⟩
        case measure => simp [intOf]; omega
      · have hmt := (mt_bd zs (pos zs j) (by omega)).resolve_left hm
        have HSB : Hid (acc zs (j + 1) = acc zs j ++ codeOf (fc (257 + lp (mtA zs (pos zs j)))) (fn (257 + lp (mtA zs (pos zs j)))) ++ bitsOf (mtA zs (pos zs j) - LB (lp (mtA zs (pos zs j)))) (LE (lp (mtA zs (pos zs j)))) ++ codeOf (dp (mtB zs (pos zs j))) 5 ++ bitsOf (mtB zs (pos zs j) - DB (dp (mtB zs (pos zs j)))) (DE (dp (mtB zs (pos zs j))))) := by show _ = _; rw [HA.out]; unfold stepB; rw [if_neg hm]; simp only [List.append_assoc]
        have HSN : Hid (stepN zs (pos zs j) = mtA zs (pos zs j)) := by show _ = _; unfold stepN; rw [if_neg hm]
        have HN2 : Hid (pos zs (j + 1) = pos zs j + mtA zs (pos zs j)) := by show _ = _; rw [HN.out, HSN.out]
        clear HSN HA HN hsb
        generalize mtA zs (pos zs j) = n at *
        generalize mtB zs (pos zs j) = far at *
        generalize pos zs j = P at *
        have hz : ((n : Int) == 0) = false := by rw [beq_eq_false_iff_ne]; omega
        have hlp : lp n < 29 := by have := dn_le LB n 28; unfold lp; omega
        have hlf : LB (lp n) ≤ n := dn_fit LB n 28 (by show 3 ≤ n; omega)
        have hlb := LB_bd (lp n) hlp
        have hdp : dp far < 30 := by have := dn_le DB far 29; unfold dp; omega
        have hdf : DB (dp far) ≤ far := dn_fit DB far 29 (by show 1 ≤ far; omega)
        have hdb := DB_bd (dp far) hdp
        have hfc := fc_bd (257 + lp n) (by omega)
        have hfn := fn_bd (257 + lp n)
        have i1 : ∀ x ∈ acc zs j ++ codeOf (fc (257 + lp n)) (fn (257 + lp n)), x ≤ 1 := by
          intro x hx; rcases List.mem_append.1 hx with h | h
          · exact HBi.out x h
          · exact codeOf_bits' _ _ x h
        have i2 : ∀ x ∈ acc zs j ++ codeOf (fc (257 + lp n)) (fn (257 + lp n)) ++ bitsOf (n - LB (lp n)) (LE (lp n)), x ≤ 1 := by
          intro x hx; rcases List.mem_append.1 hx with h | h
          · exact i1 x h
          · exact bitsOf_bits _ _ x h
        have i3 : ∀ x ∈ acc zs j ++ codeOf (fc (257 + lp n)) (fn (257 + lp n)) ++ bitsOf (n - LB (lp n)) (LE (lp n)) ++ codeOf (dp far) 5, x ≤ 1 := by
          intro x hx; rcases List.mem_append.1 hx with h | h
          · exact i2 x h
          · exact codeOf_bits' _ _ x h
        have l1 : (acc zs j ++ codeOf (fc (257 + lp n)) (fn (257 + lp n))).length ≤ 700000 := by rw [List.length_append, codeOf_len]; omega
        have l2 : (acc zs j ++ codeOf (fc (257 + lp n)) (fn (257 + lp n)) ++ bitsOf (n - LB (lp n)) (LE (lp n))).length ≤ 700010 := by rw [List.length_append, bitsOf_len]; omega
        have l3 : (acc zs j ++ codeOf (fc (257 + lp n)) (fn (257 + lp n)) ++ bitsOf (n - LB (lp n)) (LE (lp n)) ++ codeOf (dp far) 5).length ≤ 700020 := by rw [List.length_append, codeOf_len]; omega
        have HP1 : Hid (∀ W', SX W' w2.heap.size (acc zs j) → Calls Tryd.prog 75 #[.pointer (some ⟨w2.heap.size, 0, none⟩), .int .i64 (fc (257 + lp n) : Int), .int .i64 (fn (257 + lp n) : Int)] W' fun e w' => e = .returned (.tuple #[]) ∧ SX w' w2.heap.size (acc zs j ++ codeOf (fc (257 + lp n)) (fn (257 + lp n))) ∧ Below w2.heap.size W' w') :=
          fun W' h => sx_code W' _ _ _ _ (by omega) (by omega) (by omega) HBi.out h
        have HP2 : Hid (∀ W', SX W' w2.heap.size (acc zs j ++ codeOf (fc (257 + lp n)) (fn (257 + lp n))) → Calls Tryd.prog 73 #[.pointer (some ⟨w2.heap.size, 0, none⟩), .int .i64 ((n : Int) - (LB (lp n) : Int)), .int .i64 (LE (lp n) : Int)] W' fun e w' => e = .returned (.tuple #[]) ∧ SX w' w2.heap.size (acc zs j ++ codeOf (fc (257 + lp n)) (fn (257 + lp n)) ++ bitsOf (n - LB (lp n)) (LE (lp n))) ∧ Below w2.heap.size W' w') := by
          intro W' h
          rw [show ((n : Int) - (LB (lp n) : Int)) = ((n - LB (lp n) : Nat) : Int) by omega]
          exact sx_num W' _ _ _ _ (by omega) (by omega) (by omega) i1 h
        have HP3 : Hid (∀ (W' : World) (k5 : Nat), k5 = 5 → SX W' w2.heap.size (acc zs j ++ codeOf (fc (257 + lp n)) (fn (257 + lp n)) ++ bitsOf (n - LB (lp n)) (LE (lp n))) → Calls Tryd.prog 75 #[.pointer (some ⟨w2.heap.size, 0, none⟩), .int .i64 (dp far : Int), .int .i64 (k5 : Int)] W' fun e w' => e = .returned (.tuple #[]) ∧ SX w' w2.heap.size (acc zs j ++ codeOf (fc (257 + lp n)) (fn (257 + lp n)) ++ bitsOf (n - LB (lp n)) (LE (lp n)) ++ codeOf (dp far) 5) ∧ Below w2.heap.size W' w') :=
          fun W' k5 hk h => by subst hk; exact sx_code W' _ _ _ 5 (by omega) (by omega) (by omega) i2 h
        have HP4 : Hid (∀ W', SX W' w2.heap.size (acc zs j ++ codeOf (fc (257 + lp n)) (fn (257 + lp n)) ++ bitsOf (n - LB (lp n)) (LE (lp n)) ++ codeOf (dp far) 5) → Calls Tryd.prog 73 #[.pointer (some ⟨w2.heap.size, 0, none⟩), .int .i64 ((far : Int) - (DB (dp far) : Int)), .int .i64 (DE (dp far) : Int)] W' fun e w' => e = .returned (.tuple #[]) ∧ SX w' w2.heap.size (acc zs (j + 1)) ∧ Below w2.heap.size W' w') := by
          intro W' h
          rw [HSB.out, show ((far : Int) - (DB (dp far) : Int)) = ((far - DB (dp far) : Nat) : Int) by omega]
          exact sx_num W' _ _ _ _ (by omega) (by omega) (by omega) i3 h
        clear i1 i2 i3 l1 l2 l3 HSB
        generalize acc zs j ++ codeOf (fc (257 + lp n)) (fn (257 + lp n)) ++ bitsOf (n - LB (lp n)) (LE (lp n)) ++ codeOf (dp far) 5 = x3 at *
        generalize acc zs j ++ codeOf (fc (257 + lp n)) (fn (257 + lp n)) ++ bitsOf (n - LB (lp n)) (LE (lp n)) = x2 at *
        generalize acc zs j ++ codeOf (fc (257 + lp n)) (fn (257 + lp n)) = x1 at *
        have HCC : Hid (∀ W', Below w2.heap.size w2 W' → W'.cell? ⟨B, 257 + lp n, none⟩ = some (.int .i64 (fc (257 + lp n) : Int)) ∧ W'.cell? ⟨gl, 257 + lp n, none⟩ = some (.int .i64 (fn (257 + lp n) : Int))) := fun W' h => ⟨(h.cell (p := ⟨B, 257 + lp n, none⟩) hs1).trans (CC.out _ (by omega)), (h.cell (p := ⟨gl, 257 + lp n, none⟩) (by show gl < _; omega)).trans (CL.out _ (by omega))⟩
        have HBA : Hid (∀ (K : Nat) (W' : World), K ≤ 28 → Calls Tryd.prog 76 #[.int .i64 (K : Int)] W' fun e w' => e = .returned (.tuple #[.int .i64 (LB K : Int), .int .i64 (LE K : Int)]) ∧ w' = W') := fun K W' h => base_any K W' h
        have HBK : Hid (∀ (K : Nat) (W' : World), K ≤ 29 → Calls Tryd.prog 77 #[.int .i64 (K : Int)] W' fun e w' => e = .returned (.tuple #[.int .i64 (DB K : Int), .int .i64 (DE K : Int)]) ∧ w' = W') := fun K W' h => back_any K W' h
        go_wp2_with fail
        refine Calls.mono HM.out ?_
        rintro e w4 ⟨rfl, q, rfl⟩
        go_wp2_with fail
        refine Calls.mono (HBA.out 28 _ (by omega)) ?_
        rintro e w4 ⟨rfl, rfl⟩
        go_wp2
        go_loopw [9, 10] (fun k bs wx => ∃ K : Nat, K ≤ 28 ∧ k = .int .i64 (K : Int) ∧ bs = .int .i64 (LB K : Int) ∧ dn LB n K = lp n ∧ wx = wr.drewN q) (fun k _ _ => (intOf k).toNat)
        case atStart => exact ⟨28, Nat.le_refl _, rfl, rfl, rfl, rfl⟩
        case round =>
          obtain ⟨K, hK, rfl, rfl, hdn, rfl⟩ := hrel
          have HDN : Hid (dn LB n K = lp n) := hdn
          clear hdn
          have hKb := LB_bd K (by omega)
          by_cases hbig : LB K ≤ n
          · have hKl : lp n = K := by rw [← HDN.out, dn_hit LB n K hbig]
            subst hKl
            have hd2 : decide ((n : Int) < (LB (lp n) : Int)) = false := by simp; omega
            have hd3 : decide (n < LB (lp n)) = false := by simp; omega
            have HBl : Hid _ := HBA.out (lp n) (wr.drewN q) (by omega)
            have HBC : Hid _ := HBA
            clear HDN hKb hfc hfn HBA
            generalize fc (257 + lp n) = fcd at *
            generalize fn (257 + lp n) = fnd at *
            generalize LB (lp n) = LBk at *
            generalize LE (lp n) = LEk at *
            generalize lp n = k at *
            have hw1 := IntWalk.i64_in ((257 : Int) + (k : Int)) (by omega)
            have hi1 : (257 : Int) + (k : Int) = ((257 + k : Nat) : Int) := by omega
            have hi2 : 257 + k < 288 := by omega
            have hw2 := IntWalk.i64_in ((n : Int) - (LBk : Int)) (by omega)
            have hw4 := IntWalk.i64_in ((far : Int) - (DB (dp far) : Int)) (by omega)
            generalize 257 + k = K2 at *
            obtain ⟨e2, e3⟩ := HCC.out wr HB.out
            have hw3 := IntWalk.i64_in (K2 : Int) (by omega)
            have hi3 : (K2 : Int) < 288 := by omega
            go_wp2_with fail
            refine Calls.mono HBl.out ?_
            rintro e w4 ⟨rfl, rfl⟩
            go_wp2
            go_region_held3 (fun w' => w'.cell? ⟨B, K2, none⟩ = some (.int .i64 (fcd : Int)) ∧ w'.cell? ⟨gl, K2, none⟩ = some (.int .i64 (fnd : Int)))
              (first | exact ⟨e2, e3⟩ | exact HCC.out _ HB5.out)
              (first
                | (go_at_call 75; refine Calls.mono (HP1.out _ ?_) ?_; exact HS.out; rintro e w5 ⟨rfl, hs5, hb5⟩; have HS5 : Hid (SX w5 w2.heap.size x1) := hs5; have HB5 : Hid (Below w2.heap.size w2 w5) := (HB.out.trans (below_dn _ wr _)).trans hb5; clear hs5 hb5))
            go_wp2_with fail
            refine Calls.mono (HP2.out _ HS5.out) ?_
            rintro e w6 ⟨rfl, hs6, hb6⟩
            have HS6 : Hid (SX w6 w2.heap.size x2) := hs6
            have HB6 : Hid (Below w2.heap.size w2 w6) := HB5.out.trans hb6
            clear hs6 hb6 HS5 HB5
            go_wp2_with fail
            refine Calls.mono (HBK.out 29 _ (by omega)) ?_
            rintro e w6 ⟨rfl, rfl⟩
            go_wp2
            go_loopw [9, 14] (fun k bs wx => ∃ K : Nat, K ≤ 29 ∧ k = .int .i64 (K : Int) ∧ bs = .int .i64 (DB K : Int) ∧ dn DB far K = dp far ∧ wx = w6) (fun k _ _ => (intOf k).toNat)
            case atStart => exact ⟨29, Nat.le_refl _, rfl, rfl, rfl, rfl⟩
            case round =>
              obtain ⟨K, hK, rfl, rfl, hdn, rfl⟩ := hrel
              have HDN : Hid (dn DB far K = dp far) := hdn
              clear hdn
              have hKb := DB_bd K (by omega)
              by_cases hbig : DB K ≤ far
              · have hKl : dp far = K := by rw [← HDN.out, dn_hit DB far K hbig]
                subst hKl
                have hd4 : decide ((far : Int) < (DB (dp far) : Int)) = false := by simp; omega
                have hd5 : decide (far < DB (dp far)) = false := by simp; omega
                have HBl2 : Hid (∀ W' : World, Calls Tryd.prog 77 #[.int .i64 (dp far : Int)] W' fun e w' => e = .returned (.tuple #[.int .i64 (DB (dp far) : Int), .int .i64 (DE (dp far) : Int)]) ∧ w' = W') := fun W' => HBK.out (dp far) W' (by omega)
                clear HDN hKb HBK
                generalize DB (dp far) = DBk at *
                generalize DE (dp far) = DEk at *
                generalize dp far = k3 at *
                go_wp2_with fail
                refine Calls.mono (HBl2.out _) ?_
                rintro e w6 ⟨rfl, rfl⟩
                go_wp2_with fail
                refine Calls.mono (HP3.out _ 5 rfl HS6.out) ?_
                rintro e w7 ⟨rfl, hs7, hb7⟩
                have HS7 : Hid (SX w7 w2.heap.size x3) := hs7
                have HB7 : Hid (Below w2.heap.size w2 w7) := HB6.out.trans hb7
                clear hs7 hb7
                go_wp2_with fail
                refine Calls.mono (HP4.out _ HS7.out) ?_
                rintro e w8 ⟨rfl, hs8, hb8⟩
                have HS8 : Hid (SX w8 w2.heap.size (acc zs (j + 1))) := hs8
                have HB8 : Hid (Below w2.heap.size w2 w8) := HB7.out.trans hb8
                clear hs8 hb8
                go_wp2
                go_roundw
                case rel => exact ⟨j + 1, by omega, by rw [HN2.out]; go_num, HS8.out, HB8.out⟩
                case measure => simp [intOf]; omega
              · have hd2 : decide ((far : Int) < (DB K : Int)) = true := by simp; omega
                have hd3 : decide (far < DB K) = true := by simp; omega
                have hK0 : K ≠ 0 := by
                  intro e; subst e
                  exact hbig (by show 1 ≤ far; omega)
                obtain ⟨K', rfl⟩ : ∃ K', K = K' + 1 := ⟨K - 1, by omega⟩
                have HD2 : Hid (dn DB far K' = dp far) := by show _ = _; rw [← HDN.out, dn_miss DB far K' hbig]
                have hsub : ((K' + 1 : Nat) : Int) - 1 = (K' : Int) := by omega
                generalize DB (K' + 1) = v at *
                go_wp2_with fail
                refine Calls.mono (HBK.out K' _ (by omega)) ?_
                rintro e w6 ⟨rfl, rfl⟩
                go_wp2
                go_roundw
                case rel => exact ⟨K', by omega, rfl, rfl, HD2.out, by first | rfl | trivial⟩
                case measure => simp [intOf]
          · have hd2 : decide ((n : Int) < (LB K : Int)) = true := by simp; omega
            have hd3 : decide (n < LB K) = true := by simp; omega
            have hK0 : K ≠ 0 := by
              intro e; subst e
              exact hbig (by show 3 ≤ n; omega)
            obtain ⟨K', rfl⟩ : ∃ K', K = K' + 1 := ⟨K - 1, by omega⟩
            have HD2 : Hid (dn LB n K' = lp n) := by show _ = _; rw [← HDN.out, dn_miss LB n K' hbig]
            have hsub : ((K' + 1 : Nat) : Int) - 1 = (K' : Int) := by omega
            generalize LB (K' + 1) = v at *
            go_wp2_with fail
            refine Calls.mono (HBA.out K' _ (by omega)) ?_
            rintro e w4 ⟨rfl, rfl⟩
            go_wp2
            go_roundw
            case rel => exact ⟨K', by omega, rfl, rfl, HD2.out, by first | rfl | trivial⟩
            case measure => simp [intOf]
    · have e : j = J := by omega
      subst e
      have hend := HJ.out.1
      have hd : decide ((pos zs j : Int) < (zs.length : Int)) = false := by simp; omega
      have hd' : decide (pos zs j < zs.length) = false := by simp; omega
      have HP : Hid (∀ (k0 k7 : Nat), k0 = 0 → k7 = 7 → Calls Tryd.prog 75 #[.pointer (some ⟨w2.heap.size, 0, none⟩), .int .i64 (k0 : Int), .int .i64 (k7 : Int)] wr fun e w' => e = .returned (.tuple #[]) ∧ SB w' w2.heap.size (outB zs j) (acc zs j ++ codeOf 0 7).length ∧ Below w2.heap.size wr w') := by
        intro k0 k7 h0 h7; subst h0; subst h7
        exact sx_code wr _ _ 0 7 (by omega) (by omega) (by omega) HBi.out HS.out
      have HLn : Hid (0 < (outB zs j).length) := outB_pos zs j
      clear hend
      generalize (acc zs j ++ codeOf 0 7).length = u at *
      go_wp2_with fail
      refine Calls.mono (HP.out 0 7 rfl rfl) ?_
      rintro e w5 ⟨rfl, hs5, hb5⟩
      have HB5 : Hid (Below w2.heap.size wr w5) := hb5
      obtain ⟨v, q0, q1, qf, qs, qown⟩ := hs5
      rcases qown.2 with ⟨_, h⟩ | ⟨g, cap', cur, rfl, hg1, hg2, hg3, hg4, hg5, hg6⟩
      · exact absurd HLn.out (by omega)
      have HG : Hid (Gave W w5 g (outB zs j) cap') := ⟨HBel.out.trans ((HB.out.trans HB5.out).mono (by omega)), by omega, qown.1, Or.inr ⟨g, cap', cur, rfl, by omega, hg2, hg3, hg4, hg5, hg6⟩⟩
      clear qown hg2 hg5 hg6 q1 qf hb5
      go_wp2
      go_ret
      exact ⟨_, _, rfl, HG.out⟩
theorem sfix (W : World) (b cap : Nat) (zs : List Int) (J : Nat) (hJ : Ends zs J) (hl : zs.length ≤ 6000) (h8 : ∀ i, i < zs.length → 0 ≤ zs.getD i 0 ∧ zs.getD i 0 ≤ 255) (hb : b < W.heap.size) (hc : ∀ i, i < zs.length → W.cell? ⟨b, 0 + i, none⟩ = some (.int .u8 (zs.getD i 0))) :
    Calls Tryd.prog 41 #[.slice (some ⟨b, 0, none⟩) zs.length cap] W fun e w' => ∃ g c, e = .returned (.slice (some ⟨g, 0, none⟩) (outB zs J).length c) ∧ Gave W w' g (outB zs J) c :=
  sfixA W (some ⟨b, 0, none⟩) b cap zs J hJ hl h8 hb hc (Or.inr rfl)
end Go.Proofs.YtaeicgfebeliiaaDoor
namespace Go.Proofs.YtaeicgfebeliiaaDoor
open Go.ChangeShapes Go.WideShapes Go.ChangeAt Go.RowKit
set_option linter.unusedVariables false
/-- What a call that answers a list of bytes and true leaves. -/
def Made (W w' : World) (g : Nat) (cs : List Int) : Prop := Nw W w' ∧ W.heap.size ≤ g ∧ At w' g cs

theorem nats_of (zs : List Int) (h : ∀ z ∈ zs, 0 ≤ z ∧ z ≤ 255) : ∃ ds : List Nat, zs = ints ds ∧ ∀ d ∈ ds, d < 256 := by
  refine ⟨zs.map Int.toNat, ?_, ?_⟩
  · unfold ints
    rw [List.map_map]
    conv => lhs; rw [← List.map_id zs]
    apply List.map_congr_left
    intro z hz
    have := h z hz
    simp; omega
  · intro d hd
    obtain ⟨z, hz, rfl⟩ := List.mem_map.1 hd
    have := h z hz
    omega
theorem stored_len (ds : List Nat) : (stored ds).length = ds.length + 5 := by simp [stored]
theorem cells_nat {W : World} {b : Nat} {ds : List Nat} (h : At W b (ints ds)) : ∀ i, i < ds.length → W.cell? ⟨b, 0 + i, none⟩ = some (.int .u8 ((ds.getD i 0 : Nat) : Int)) := by
  intro i hi
  have := h.2.1 i (by rw [ints_len]; exact hi)
  rwa [ints_get] at this
theorem ints_bd (ds : List Nat) (h8 : ∀ d ∈ ds, d < 256) : ∀ i, i < (ints ds).length → 0 ≤ (ints ds).getD i 0 ∧ (ints ds).getD i 0 ≤ 255 := by
  intro i hi
  rw [ints_len] at hi
  rw [ints_get]
  have e : ds.getD i 0 = ds[i] := by simp [hi]
  have := h8 ds[i] (List.getElem_mem _)
  rw [e]; omega
/-- The shorter one, the stored one where both are as long. -/
def bestL (ds : List Nat) (J : Nat) : List Nat := if (outB (ints ds) J).length < ds.length + 5 then outB (ints ds) J else stored ds

set_option maxHeartbeats 2000000 in
theorem ibest (W : World) (b cap : Nat) (ds : List Nat) (J : Nat) (hJ : Ends (ints ds) J) (ht : Tabs W) (hl : ds.length ≤ 6000) (h8 : ∀ d ∈ ds, d < 256) (ha : At W b (ints ds)) :
    Calls Tryd.prog 6 #[.slice (some ⟨b, 0, none⟩) ds.length cap] W fun e w' => ∃ g c, e = .returned (.tuple #[.slice (some ⟨g, 0, none⟩) (bestL ds J).length c, .bool true]) ∧ Made W w' g (ints (bestL ds J)) := by
  have H1 : Hid _ := istored W b cap ds hl h8 ha.1 (cells_nat ha)
  have h4 : 4 ≤ W.heap.size := ht.2.2.2.2
  have H2 : Hid (∀ w1, Below W.heap.size W w1 → Calls Tryd.prog 9 #[.slice (some ⟨b, 0, none⟩) ds.length cap] w1 fun e w' => ∃ g c, e = .returned (.tuple #[.slice (some ⟨g, 0, none⟩) (outB (ints ds) J).length c, .bool true]) ∧ Gave w1 w' g (outB (ints ds) J) c) := by
    intro w1 hb
    have hA := At.nw ha hb
    have h := ifix w1 b cap (ints ds) J hJ (ht.below hb h4) (by rw [ints_len]; exact hl) (ints_bd ds h8) hA.1 hA.2.1
    rw [ints_len] at h
    exact h
  have hsl := stored_len ds
  have hpos := outB_pos (ints ds) J
  unfold bestL
  clear hJ ht h8 ha
  by_cases hlt : (outB (ints ds) J).length < ds.length + 5
  · rw [if_pos hlt]
    have d1 : decide (((outB (ints ds) J).length : Int) < ((stored ds).length : Int)) = true := by simp; omega
    have d2 : decide ((outB (ints ds) J).length < (stored ds).length) = true := by simp; omega
    generalize outB (ints ds) J = O at *
    generalize stored ds = T at *
    clear hlt hsl
    go_enter Tryd.func6, Tryd.ntmps6
    go_wp2_with fail
    refine Calls.mono H1.out ?_
    rintro e w1 ⟨g1, c1, rfl, hg⟩
    have HB : Hid (Below W.heap.size W w1) := hg.1
    clear hg
    go_wp2_with fail
    refine Calls.mono (H2.out w1 HB.out) ?_
    rintro e w2 ⟨g2, c2, rfl, hg⟩
    have HM : Hid (Made W w2 g2 (ints O)) := ⟨Nw.trans HB.out hg.1, Nat.le_trans (Below.size HB.out) hg.2.1, At.gave hg⟩
    clear hg
    go_wp2
    go_ret2
    exact ⟨_, _, rfl, HM.out⟩
  · rw [if_neg hlt]
    have d1 : decide (((outB (ints ds) J).length : Int) < ((stored ds).length : Int)) = false := by simp; omega
    have d2 : decide ((outB (ints ds) J).length < (stored ds).length) = false := by simp; omega
    generalize outB (ints ds) J = O at *
    generalize stored ds = T at *
    clear hlt hsl
    go_enter Tryd.func6, Tryd.ntmps6
    go_wp2_with fail
    refine Calls.mono H1.out ?_
    rintro e w1 ⟨g1, c1, rfl, hg⟩
    have HB : Hid (Below W.heap.size W w1) := hg.1
    have HA : Hid (At w1 g1 (ints T)) := At.gave hg
    have HZ : Hid (W.heap.size ≤ g1) := hg.2.1
    clear hg
    go_wp2_with fail
    refine Calls.mono (H2.out w1 HB.out) ?_
    rintro e w2 ⟨g2, c2, rfl, hg⟩
    have HM : Hid (Made W w2 g1 (ints T)) := ⟨Nw.trans HB.out hg.1, HZ.out, At.nw HA.out hg.1⟩
    clear hg
    go_wp2
    go_ret2
    exact ⟨_, _, rfl, HM.out⟩

set_option maxHeartbeats 2000000 in
theorem sl2best (W : World) (b cap : Nat) (ds : List Nat) (J : Nat) (hJ : Ends (ints ds) J) (hl : ds.length ≤ 6000) (h8 : ∀ d ∈ ds, d < 256) (ha : At W b (ints ds)) :
    Calls Tryd.prog 18 #[.slice (some ⟨b, 0, none⟩) ds.length cap] W fun e w' => ∃ g c, e = .returned (.slice (some ⟨g, 0, none⟩) (bestL ds J).length c) ∧ Made W w' g (ints (bestL ds J)) := by
  have H1 : Hid (Calls Tryd.prog 41 #[.slice (some ⟨b, 0, none⟩) ds.length cap] W fun e w' => ∃ g c, e = .returned (.slice (some ⟨g, 0, none⟩) (outB (ints ds) J).length c) ∧ Gave W w' g (outB (ints ds) J) c) := by
    have h := sfix W b cap (ints ds) J hJ (by rw [ints_len]; exact hl) (ints_bd ds h8) ha.1 ha.2.1
    rw [ints_len] at h
    exact h
  have H2 : Hid (∀ w1, Below W.heap.size W w1 → Calls Tryd.prog 42 #[.slice (some ⟨b, 0, none⟩) ds.length cap] w1 fun e w' => ∃ g c, e = .returned (.slice (some ⟨g, 0, none⟩) (stored ds).length c) ∧ Gave w1 w' g (stored ds) c) := by
    intro w1 hb
    have hA := At.nw ha hb
    exact sl2stored w1 b cap ds hl hA.1 (cells_nat hA)
  have hol := hJ.1
  unfold bestL
  have hw := IntWalk.i64_in ((ds.length : Int) + 5) (by omega)
  clear hJ h8 ha hol
  by_cases hlt : (outB (ints ds) J).length < ds.length + 5
  · rw [if_pos hlt]
    have d1 : decide (((outB (ints ds) J).length : Int) < (ds.length : Int) + 5) = true := by simp; omega
    generalize outB (ints ds) J = O at *
    clear hlt H2
    go_enter Tryd.func18, Tryd.ntmps18
    go_wp2_with fail
    refine Calls.mono H1.out ?_
    rintro e w1 ⟨g1, c1, rfl, hg⟩
    have HM : Hid (Made W w1 g1 (ints O)) := ⟨hg.1, hg.2.1, At.gave hg⟩
    clear hg
    go_wp2
    go_ret
    exact ⟨_, _, rfl, HM.out⟩
  · rw [if_neg hlt]
    have d1 : decide (((outB (ints ds) J).length : Int) < (ds.length : Int) + 5) = false := by simp; omega
    generalize outB (ints ds) J = O at *
    generalize stored ds = T at *
    clear hlt
    go_enter Tryd.func18, Tryd.ntmps18
    go_wp2_with fail
    refine Calls.mono H1.out ?_
    rintro e w1 ⟨g1, c1, rfl, hg⟩
    have HB : Hid (Below W.heap.size W w1) := hg.1
    clear hg
    go_wp2_with fail
    refine Calls.mono (H2.out w1 HB.out) ?_
    rintro e w2 ⟨g2, c2, rfl, hg⟩
    have HM : Hid (Made W w2 g2 (ints T)) := ⟨Nw.trans HB.out hg.1, Nat.le_trans (Below.size HB.out) hg.2.1, At.gave hg⟩
    clear hg
    go_wp2
    go_ret
    exact ⟨_, _, rfl, HM.out⟩

set_option maxHeartbeats 1000000 in
theorem sbest (W : World) (b cap : Nat) (ds : List Nat) (J : Nat) (hJ : Ends (ints ds) J) (hl : ds.length ≤ 6000) (h8 : ∀ d ∈ ds, d < 256) (ha : At W b (ints ds)) :
    Calls Tryd.prog 7 #[.slice (some ⟨b, 0, none⟩) ds.length cap] W fun e w' => ∃ g c, e = .returned (.tuple #[.slice (some ⟨g, 0, none⟩) (bestL ds J).length c, .bool true]) ∧ Made W w' g (ints (bestL ds J)) := by
  have hd1 : decide ((6000 : Int) < (ds.length : Int)) = false := by simp; omega
  have HC : Hid _ := sl2best W b cap ds J hJ hl h8 ha
  clear hJ h8 ha
  go_enter Tryd.func7, Tryd.ntmps7
  go_wp2_with fail
  refine Calls.mono HC.out ?_
  rintro e w1 ⟨g, c, rfl, hg⟩
  have HG : Hid (Made W w1 g (ints (bestL ds J))) := hg
  clear hg
  go_wp2
  go_ret2
  exact ⟨_, _, rfl, HG.out⟩
theorem sbest_no (W : World) (a : Option Addr) (n cap : Nat) (hl : 6000 < n) (hl2 : n ≤ 1048576) :
    Calls Tryd.prog 7 #[.slice a n cap] W fun e w' => e = .returned (.tuple #[.slice none 0 0, .bool false]) ∧ w' = W := by
  have hd1 : decide ((6000 : Int) < (n : Int)) = true := by simp; omega
  go_enter Tryd.func7, Tryd.ntmps7
  go_wp2
  go_ret2
  exact ⟨rfl, rfl⟩
theorem istored_no (W : World) (a : Option Addr) (n cap : Nat) (hl : 6000 < n) (hl2 : n ≤ 1048576) :
    Calls Tryd.prog 8 #[.slice a n cap] W fun e w' => e = .returned (.tuple #[.slice none 0 0, .bool false]) ∧ w' = W := by
  have hd1 : decide ((6000 : Int) < (n : Int)) = true := by simp; omega
  go_enter Tryd.func8, Tryd.ntmps8
  go_wp2
  go_ret2
  exact ⟨rfl, rfl⟩
theorem ibest_no (W : World) (a : Option Addr) (n cap : Nat) (hl : 6000 < n) (hl2 : n ≤ 1048576) :
    Calls Tryd.prog 6 #[.slice a n cap] W fun e w' => e = .returned (.tuple #[.slice none 0 0, .bool false]) ∧ w' = W := by
  have HC : Hid _ := istored_no W a n cap hl hl2
  go_enter Tryd.func6, Tryd.ntmps6
  go_wp2_with fail
  refine Calls.mono HC.out ?_
  rintro e w1 ⟨rfl, rfl⟩
  go_wp2
  go_ret2
  exact ⟨rfl, rfl⟩
theorem outB_len (zs : List Int) (J : Nat) (hJ : Ends zs J) (hl : zs.length ≤ 6000) : (outB zs J).length ≤ 100000 := by
  have a := acc_bd zs J hJ J (Nat.le_refl _)
  have b := puts_len ([], 0) (acc zs J ++ codeOf 0 7)
  rw [List.length_append, codeOf_len] at b
  unfold outB
  simp at b
  omega
end Go.Proofs.YtaeicgfebeliiaaDoor
namespace Go.Proofs.YtaeicgfebeliiaaDoor
open Go.ChangeShapes Go.WideShapes Go.ChangeAt Go.RowKit
set_option linter.unusedVariables false

theorem sy_of {w : World} {B : Nat} {v : Value} {l : List Nat} (h : Ins w B v (ints l)) (h0 : 0 < l.length) : ∃ g c, v = .slice (some ⟨g, 0, none⟩) l.length c ∧ B ≤ g ∧ SyAt w g l := by
  rcases h.lay with ⟨_, e⟩ | ⟨g, c, e, hB, h1, h2, h3⟩
  · have := congrArg List.length e
    rw [ints_len] at this
    simp at this
    rw [this] at h0; simp at h0
  · rw [ints_len] at e
    refine ⟨g, c, e, hB, h1, fun i hi => ?_⟩
    have := h2 i (by rw [ints_len]; exact hi)
    unfold intAt at this
    rwa [ints_get] at this
theorem book_any (w : World) (zs : List Int) (m : Nat) (hm : zs.length = m) (cf : Nat → Nat) (sy : List Nat) (n : Nat) (hf : fit zs = true) (hb : booked zs 15 = sy) (hc : (List.range 16).all (fun l => decide (cn zs m l = (cf l : Int))) = true) (hn : sy.length = n) (h0 : 0 < n) :
    Calls Tryd.prog 51 #[.slice (some ⟨w.heap.size, 0, none⟩) m m] (w.alloc (.cells (cellsOf .i64 zs) 3)) fun e w' => ∃ g c C, e = .returned (.agg C) ∧ bookV cf g n c = .agg C ∧ C.size = 17 ∧ SyAt w' g sy ∧ w.heap.size ≤ g ∧ Nw w w' := by
  obtain ⟨T, hT⟩ : ∃ T : Nat → Int, ∀ k, T k = cn zs zs.length k := ⟨_, fun _ => rfl⟩
  have hq : ∀ l, l < 16 → T l = (cf l : Int) := fun l hl => by
    rw [hT l, hm]
    exact of_decide_eq_true (List.all_eq_true.1 hc l (List.mem_range.2 hl))
  have h := bookOf_any (w.alloc (.cells (cellsOf .i64 zs) 3)) w.heap.size m zs hf (by simp) (row_cells3 w zs 3) T hT
  rw [hm, hb] at h
  refine Calls.mono h ?_
  rintro e w' ⟨v, rfl, hi, nw⟩
  obtain ⟨g, c, rfl, hg, hs⟩ := sy_of hi (by omega)
  rw [hn]
  refine ⟨g, c, _, rfl, ?_, rfl, hs, by simp at hg; omega, Nw.trans ((Below.refl _ _).alloc (Nat.le_refl _) _) nw⟩
  unfold bookV
  rw [hq 0 (by omega), hq 1 (by omega), hq 2 (by omega), hq 3 (by omega), hq 4 (by omega), hq 5 (by omega), hq 6 (by omega), hq 7 (by omega), hq 8 (by omega), hq 9 (by omega), hq 10 (by omega), hq 11 (by omega), hq 12 (by omega), hq 13 (by omega), hq 14 (by omega), hq 15 (by omega)]
theorem fiveL_len : fiveL.length = 32 := by decide
theorem fiveL_fit : fit fiveL = true := by decide +kernel
/-- What a block that is read leaves. -/
def Blk (w : World) (S b cap : Nat) (ds : List Nat) (zs : List Int) (t : Nat) (e : Ending) (w' : World) : Prop :=
  ∃ v, e = .returned (.tuple #[v, .int .i64 1, .int .i64 0]) ∧ Own w' w.heap.size v zs ∧ Src w' S b cap ds t ∧ Gr S w w'
set_option maxHeartbeats 4000000 in
theorem blockStored_any (w : World) (S b cap : Nat) (xs : List Nat) (hl : xs.length ≤ 6000) (h8 : ∀ d ∈ xs, d < 256) (hs : Src w S b cap (stored xs) 0) (hb : b < w.heap.size) :
    Calls Tryd.prog 27 #[.iface 47 (.pointer (some ⟨S, 0, none⟩)), .slice none 0 0] w (Blk w S b cap (stored xs) (ints xs) (8 * (stored xs).length)) := by
  obtain ⟨q0, q1, _, _, _, q4⟩ := stored_reads xs hl h8
  have hsl : (stored xs).length = xs.length + 5 := by simp [stored]
  have n0 := takeNumber_any w S b cap (stored xs) 0 1 (by omega) q4 (by omega) hs (by omega)
  rw [q0] at n0
  have n1 := fun w1 s1 => takeNumber_any w1 S b cap (stored xs) 1 2 (by omega) q4 (by omega) s1 (by omega)
  rw [q1] at n1
  have N0 : Hid _ := n0
  have N1 : Hid _ := n1
  have hSw := hs.lt
  have US : Hid (∀ w1, Gr S w w1 → Src w1 S b cap (stored xs) 3 → _) := fun w1 g s => unpackStored_any w1 S b cap xs hl h8 s (Nat.lt_of_lt_of_le hb g.size)
  generalize stored xs = ds at *
  clear n0 n1 q0 q1 q4 h8 hs
  go_enter Tryd.func27, Tryd.ntmps27
  go_wp2_with fail
  refine Calls.mono N0.out ?_
  rintro e w1 ⟨rfl, s1, g1⟩
  have S1 : Hid (Src w1 S b cap ds 1) := s1
  have G1 : Hid (Gr S w w1) := g1
  clear s1 g1
  go_wp2_with fail
  refine Calls.mono (N1.out w1 S1.out) ?_
  rintro e w2 ⟨rfl, s1, g1⟩
  have S2 : Hid (Src w2 S b cap ds 3) := s1
  have G2 : Hid (Gr S w w2) := G1.out.trans g1
  clear s1 g1
  go_wp2_with fail
  refine Calls.mono (US.out w2 G2.out S2.out) ?_
  rintro e w3 ⟨v, rfl, o3, s3, g3⟩
  have O3 : Hid (Own w3 w.heap.size v (ints xs)) := Own.base o3 G2.out.size
  have S3 : Hid (Src w3 S b cap ds (8 * ds.length)) := s3
  have G3 : Hid (Gr S w w3) := G2.out.trans g3
  clear s3 g3 o3
  go_wp2
  go_returns
  exact ⟨_, rfl, O3.out, S3.out, G3.out⟩
set_option maxHeartbeats 4000000 in
theorem blockFixed_any (w : World) (S b cap : Nat) (ds : List Nat) (zs : List Int) (J : Nat) (hJ : Ends zs J) (hzl : zs.length ≤ 6000) (hz8 : ∀ i, i < zs.length → 0 ≤ zs.getD i 0 ∧ zs.getD i 0 ≤ 255) (hk : Bks zs J ds) (hl : ds.length ≤ 100000) (hT : Tabs w) (hS4 : 4 ≤ S) (hs : Src w S b cap ds 0) (hb : b < w.heap.size) :
    Calls Tryd.prog 27 #[.iface 47 (.pointer (some ⟨S, 0, none⟩)), .slice none 0 0] w (Blk w S b cap ds zs ((acc zs J).length + 7)) := by
  have hr := hk.room
  have ha := acc_ge zs J
  obtain ⟨q0, q1⟩ := hk.head
  have n0 := takeNumber_any w S b cap ds 0 1 hl hk.h8 (by omega) hs (by omega)
  rw [q0] at n0
  have n1 := fun w1 s1 => takeNumber_any w1 S b cap ds 1 2 hl hk.h8 (by omega) s1 (by omega)
  rw [q1] at n1
  have N0 : Hid _ := n0
  have N1 : Hid _ := n1
  have hSw := hs.lt
  have UC : Hid (∀ (w1 : World) (gF cF gD cD : Nat) (CF CD : Array Value), bookV cnF gF 288 cF = .agg CF → bookV cnD gD 32 cD = .agg CD → CF.size = 17 → CD.size = 17 → Gr S w w1 → Src w1 S b cap ds 3 → SyAt w1 gF syF → gF ≠ S → SyAt w1 gD syD → gD ≠ S → _) := fun w1 gF cF gD cD CF CD a1 a2 a3 a4 g s a5 a6 a7 a8 => unpackCoded_any w1 S b cap ds zs J hJ hzl hz8 hk hl gF cF gD cD CF CD a1 a2 a3 a4 (hT.gr g hS4 hSw) hS4 s (Nat.lt_of_lt_of_le hb g.size) a5 a6 a7 a8
  have BF : Hid _ := fun w1 => book_any w1 fixedL 288 fixedL_len cnF syF 288 fixed_fit booked_fixed cn_fixed syF_len (by omega)
  have BD : Hid _ := fun w1 => book_any w1 fiveL 32 fiveL_len cnD syD 32 fiveL_fit booked_five cn_five syD_len (by omega)
  clear n0 n1 q0 q1 hk hJ hz8 hT hs
  go_enter Tryd.func27, Tryd.ntmps27
  go_wp2_with fail
  refine Calls.mono N0.out ?_
  rintro e w1 ⟨rfl, s1, g1⟩
  have S1 : Hid (Src w1 S b cap ds 1) := s1
  have G1 : Hid (Gr S w w1) := g1
  clear s1 g1
  go_wp2_with fail
  refine Calls.mono (N1.out w1 S1.out) ?_
  rintro e w2 ⟨rfl, s1, g1⟩
  have S2 : Hid (Src w2 S b cap ds 3) := s1
  have G2 : Hid (Gr S w w2) := G1.out.trans g1
  have hb2 : b < w2.heap.size := Nat.lt_of_lt_of_le hb G2.out.size
  clear s1 g1
  go_wp2_with fail
  refine Calls.mono (fixedLengths_any w2) ?_
  rintro e w3 ⟨rfl, rfl⟩
  go_wp2_with fail
  refine Calls.mono (BF.out w2) ?_
  rintro e w4 ⟨gF, cF, CF, rfl, eF, zF, yF, lF, nF⟩
  have hSF : S < w2.heap.size := S2.out.lt
  have S4 : Hid (Src w4 S b cap ds 3) := S2.out.nw nF hb2
  have G4 : Hid (Gr S w w4) := G2.out.trans (Gr.of_nw nF)
  have YF : Hid (SyAt w4 gF syF) := yF
  have EF : Hid _ := eF
  have ZF : Hid _ := zF
  have hgF : gF ≠ S := by omega
  have hb4 : b < w4.heap.size := Nat.lt_of_lt_of_le hb2 (Below.size nF)
  have hS4' : S < w4.heap.size := S4.out.lt
  clear yF nF eF zF
  go_wp2_with fail
  refine Calls.mono (fixedDistances_any w4) ?_
  rintro e w5 ⟨rfl, rfl⟩
  go_wp2_with fail
  refine Calls.mono (BD.out w4) ?_
  rintro e w6 ⟨gD, cD, CD, rfl, eD, zD, yD, lD, nD⟩
  have S6 : Hid (Src w6 S b cap ds 3) := S4.out.nw nD hb4
  have G6 : Hid (Gr S w w6) := G4.out.trans (Gr.of_nw nD)
  have YF6 : Hid (SyAt w6 gF syF) := YF.out.gr (Gr.of_nw (B := S) nD) hgF
  have YD : Hid (SyAt w6 gD syD) := yD
  have ED : Hid _ := eD
  have ZD : Hid _ := zD
  have hgD : gD ≠ S := by omega
  clear yD nD eD zD
  go_wp2_with fail
  refine Calls.mono (UC.out w6 gF cF gD cD CF CD EF.out ED.out ZF.out ZD.out G6.out S6.out YF6.out hgF YD.out hgD) ?_
  rintro e w7 ⟨v, rfl, o3, s3, g3⟩
  have O3 : Hid (Own w7 w.heap.size v zs) := Own.base o3 G6.out.size
  have S3 : Hid (Src w7 S b cap ds ((acc zs J).length + 7)) := s3
  have G3 : Hid (Gr S w w7) := G6.out.trans g3
  clear s3 g3 o3
  go_wp2
  go_returns
  exact ⟨_, rfl, O3.out, S3.out, G3.out⟩
set_option maxHeartbeats 4000000 in
theorem unpack_of (w : World) (b cap : Nat) (ds : List Nat) (zs : List Int) (t : Nat) (hl : ds.length ≤ 12000) (ht : t ≤ 8 * ds.length) (ht2 : (t + 7) / 8 = ds.length) (hb : b < w.heap.size) (hc : ∀ i, i < ds.length → w.cell? ⟨b, i, none⟩ = some (.int .u8 ((ds.getD i 0 : Nat) : Int)))
    (hB : ∀ w1, Nw w w1 → Src w1 w.heap.size b cap ds 0 → Calls Tryd.prog 27 #[.iface 47 (.pointer (some ⟨w.heap.size, 0, none⟩)), .slice none 0 0] w1 (Blk w1 w.heap.size b cap ds zs t)) :
    Calls Tryd.prog 10 #[.slice (some ⟨b, 0, none⟩) ds.length cap] w fun e w' => ∃ v, e = .returned (.tuple #[v, .int .i64 ds.length, .int .i64 0]) ∧ Own w' w.heap.size v zs ∧ Nw w w' := by
  obtain ⟨W1, hW1⟩ : ∃ W, w.alloc (.cells #[.slice (some ⟨b, 0, none⟩) ds.length cap, .int .i64 0] 49) = W := ⟨_, rfl⟩
  have NW : Hid (Nw w W1) := by show Nw _ _; rw [← hW1]; exact (Below.refl _ _).alloc (Nat.le_refl _) _
  have hs1 : Src W1 w.heap.size b cap ds 0 := by
    refine ⟨by rw [← hW1]; simp, by rw [← hW1]; simp, fun o => by rw [← hW1]; exact World.frozen?_alloc_at _ _ _ _ rfl, by omega, fun i hi => ?_⟩
    rw [(bcell NW.out).1 b i hb]; exact hc i hi
  have HBk : Hid _ := hB W1 NW.out hs1
  have hT12 : decide ((12000 : Int) < (ds.length : Int)) = false := by simp; omega
  have HW1 : Hid (_ = W1) := hW1
  have HT2 : Hid _ := ht2
  have hsz1 : W1.heap.size = w.heap.size + 1 := by rw [← hW1]; simp
  have HSZ : Hid _ := hsz1
  obtain ⟨S, hS⟩ : ∃ S, w.heap.size = S := ⟨_, rfl⟩
  have HS : Hid (w.heap.size = S) := hS
  rw [hS] at HBk ⊢
  clear hW1 hs1 hB hc ht2 hsz1
  go_enter Tryd.func10, Tryd.ntmps10
  go_wp2
  rw [HW1.out]
  go_loopw [6] (fun v wr => v = .slice none 0 0 ∧ wr = W1) (fun _ _ => 0)
  case atStart => exact ⟨rfl, rfl⟩
  case round =>
    obtain ⟨rfl, rfl⟩ := hrel
    go_wp2_with fail
    refine Calls.mono HBk.out ?_
    rintro e w2 ⟨v, rfl, o2, s2, g2⟩
    have hw0 := whole_any w2 S b cap ds t (by omega) s2 ht
    rw [HT2.out] at hw0
    have HW : Hid _ := hw0
    have hnw : Nw w w2 := Below.trans NW.out (Gr.below g2 (by have := Below.size NW.out; omega) |>.mono (by rw [HS.out]; exact Nat.le_refl _))
    have N2 : Hid (Nw w w2) := hnw
    have O2 : Hid (Own w2 S v zs) := Own.base o2 (by rw [HSZ.out, HS.out]; omega)
    obtain ⟨sa, sc, rfl⟩ := Own.shape o2
    clear o2 s2 g2 hnw hw0
    go_wp2_with fail
    refine Calls.mono HW.out ?_
    rintro e w3 ⟨rfl, n, rfl⟩
    go_wp2
    go_returns
    exact ⟨_, rfl, Own.nw O2.out ⟨rfl, rfl, rfl, Nat.le_refl _, fun _ _ => rfl⟩, Nw.trans N2.out ⟨rfl, rfl, rfl, Nat.le_refl _, fun _ _ => rfl⟩⟩
end Go.Proofs.YtaeicgfebeliiaaDoor

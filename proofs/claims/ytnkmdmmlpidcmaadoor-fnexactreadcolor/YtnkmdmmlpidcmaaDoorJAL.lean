/-
  A color's digits read by the program; each theorem names its conditions.
  A color's digits read by the program: its tones; each theorem names its conditions.
  A color's three digits read by the program; each theorem names its conditions.
  Names of colors, by the specification; each theorem names its conditions.
-/
import Derived.Test.YtnkmdmmlpidcmaaDoorJAK
import Derived.BigRegion
import Derived.Lib.IfaceEq
import Derived.Lib.SlBytesRow
import Derived.Test.YtnkmdmmlpidcmaaDoorJAJ
namespace Go.Proofs.YtnkmdmmlpidcmaaDoor
open Go.ChangeShapes Go.WideShapes Go.ChangeAt Go.RowKit
set_option linter.unusedVariables false

set_option maxHeartbeats 2000000 in
theorem itoErr1 (f s : ByteArray) (w : World) (hs : s.size ≤ 1048576) (h : ErrL w) : Calls Tryd.prog 116 #[.string f, .string s, .int .i64 16, .int .i64 64, .iface 153 (.int .i64 1)] w fun e w' => (∃ t v, e = .returned (.iface t v)) ∧ Nw w w' := by
  have HR : Hid (Calls Tryd.prog 142 #[.string f, .string s] w fun e w' => (∃ a, e = .returned (.pointer (some a))) ∧ Nw w w') := irange f s w hs h
  have q12 : ∀ W, (binOp .eql 89 (.iface 153 (.int .i64 1)) (.iface 153 (.int .i64 2))).run Tryd.prog W = .ok (.bool false) W := fun W => Lib.run_eql_iface_int W 1 2 Tryd.underlying89 (by kernel_rfl) Tryd.underlying153
  have q11 : ∀ W, (binOp .eql 89 (.iface 153 (.int .i64 1)) (.iface 153 (.int .i64 1))).run Tryd.prog W = .ok (.bool true) W := fun W => Lib.run_eql_iface_int W 1 1 Tryd.underlying89 (by kernel_rfl) Tryd.underlying153
  clear h
  go_enter Tryd.func116, Tryd.ntmps116
  go_wp2_with fail
  refine Calls.mono HR.out ?_
  rintro e w1 ⟨⟨a, rfl⟩, k1⟩
  go_wp2
  go_ret
  exact ⟨⟨_, _, rfl⟩, k1⟩
set_option maxHeartbeats 2000000 in
theorem itoErr2 (f s : ByteArray) (w : World) (hs : s.size ≤ 1048576) (h : ErrL w) : Calls Tryd.prog 116 #[.string f, .string s, .int .i64 16, .int .i64 64, .iface 153 (.int .i64 2)] w fun e w' => (∃ t v, e = .returned (.iface t v)) ∧ Nw w w' := by
  have HR : Hid (Calls Tryd.prog 141 #[.string f, .string s] w fun e w' => (∃ a, e = .returned (.pointer (some a))) ∧ Nw w w') := isyntax f s w hs h
  have q22 : ∀ W, (binOp .eql 89 (.iface 153 (.int .i64 2)) (.iface 153 (.int .i64 2))).run Tryd.prog W = .ok (.bool true) W := fun W => Lib.run_eql_iface_int W 2 2 Tryd.underlying89 (by kernel_rfl) Tryd.underlying153
  clear h
  go_enter Tryd.func116, Tryd.ntmps116
  go_wp2_with fail
  refine Calls.mono HR.out ?_
  rintro e w1 ⟨⟨a, rfl⟩, k1⟩
  go_wp2
  go_ret
  exact ⟨⟨_, _, rfl⟩, k1⟩
/-- What ParseUint answers of a text. -/
structure PuT (s : ByteArray) (n : Int) (err : Value) : Prop where
  lo : 0 ≤ n
  hi : n ≤ 18446744073709551615
  yes : s.size = 6 → s.data.toList.all hexB = true → err = .nilIface ∧ n = hxV s.data.toList
  no : s.size = 6 → s.data.toList.all hexB = false → ∃ t v, err = .iface t v
  way : err = .nilIface ∨ ∃ t v, err = .iface t v
theorem PuT.of {s : ByteArray} {n : Int} {e1 e2 : Value} (h : PuS s n e1) (h1 : ¬ e1 = .nilIface) (h2 : ∃ t v, e2 = .iface t v) : PuT s n e2 :=
  ⟨h.lo, h.hi, (fun a b => absurd (h.yes a b).1 h1), (fun _ _ => h2), Or.inr h2⟩
theorem PuT.nil {s : ByteArray} {n : Int} (h : PuS s n .nilIface) : PuT s n .nilIface :=
  ⟨h.lo, h.hi, h.yes, (fun a b => ⟨_, _, h.no a b⟩), Or.inl rfl⟩
set_option maxHeartbeats 2000000 in
theorem iparseU (s : ByteArray) (w : World) (hs : s.size ≤ 1048576) (h : ErrL w) :
    Calls Tryd.prog 86 #[.string s, .int .i64 16, .int .i64 64] w fun e w' => ∃ n err, e = .returned (.tuple #[.int .u64 n, err]) ∧ PuT s n err ∧ Nw w w' := by
  have HE : Hid (ErrL w) := h
  clear h
  go_enter Tryd.func86, Tryd.ntmps86
  go_wp2_with fail
  refine Calls.mono (iparse s _ hs) ?_
  rintro e w1 ⟨n, err, rfl, hp, k1⟩
  have HP : Hid (PuS s n err) := hp
  have HN1 : Hid (Nw w w1) := k1
  rcases hp.way with rfl | rfl | rfl
  · clear hp k1
    go_wp2
    go_ret2
    exact ⟨_, _, rfl, PuT.nil HP.out, HN1.out⟩
  · clear hp k1
    go_wp2_with fail
    refine Calls.mono (itoErr1 _ s _ hs (HE.out.nw HN1.out)) ?_
    rintro e w2 ⟨⟨t, v, rfl⟩, k2⟩
    go_wp2
    go_ret2
    exact ⟨_, _, rfl, PuT.of HP.out (fun e => by cases e) ⟨t, v, rfl⟩, Nw.trans HN1.out k2⟩
  · clear hp k1
    go_wp2_with fail
    refine Calls.mono (itoErr2 _ s _ hs (HE.out.nw HN1.out)) ?_
    rintro e w2 ⟨⟨t, v, rfl⟩, k2⟩
    go_wp2
    go_ret2
    exact ⟨_, _, rfl, PuT.of HP.out (fun e => by cases e) ⟨t, v, rfl⟩, Nw.trans HN1.out k2⟩
end Go.Proofs.YtnkmdmmlpidcmaaDoor
namespace Go.Proofs.YtnkmdmmlpidcmaaDoor
open Go.ChangeShapes Go.WideShapes Go.ChangeAt Go.RowKit
set_option linter.unusedVariables false

theorem and255 (a : Nat) (ha : a < 2^64) : Go.bits .and .u64 (a : Int) 255 = ((a % 256 : Nat) : Int) := by
  have ea : (BitVec.ofInt IntKind.u64.bits (a : Int)) = BitVec.ofNat 64 a := by rw [BitVec.ofInt_natCast]; rfl
  have h : (BitVec.ofNat 64 a &&& BitVec.ofNat 64 255).toNat = a % 256 := by
    rw [BitVec.toNat_and, BitVec.toNat_ofNat, BitVec.toNat_ofNat, Nat.mod_eq_of_lt ha]
    exact Nat.and_two_pow_sub_one_eq_mod a 8
  show IntKind.u64.wrap (((BitVec.ofInt IntKind.u64.bits (a : Int)) &&& (BitVec.ofInt IntKind.u64.bits ((255 : Nat) : Int))).toNat : Int) = _
  rw [ea]
  show IntKind.u64.wrap (((BitVec.ofNat 64 a) &&& (BitVec.ofNat 64 255)).toNat : Int) = _
  rw [h]
  unfold IntKind.wrap
  simp [IntKind.bits, IntKind.signed]
  omega
theorem hash_len {d : List UInt8} (h3 : d.length ≠ 3) (h6 : d.length ≠ 6) : hashC d = none := by
  unfold hashC
  split
  · exact pickC_no (by rw [List.length_map]; exact h3) (by rw [List.length_map]; exact h6)
  · rfl
theorem hash_bad {d : List UInt8} (h : d.all hexB = false) : hashC d = none := by unfold hashC; rw [if_neg (by rw [h]; simp)]
theorem six8 (l : List UInt8) (h : l.length = 6) : ∃ a b c d e f, l = [a, b, c, d, e, f] := by
  match l, h with
  | [a, b, c, d, e, f], _ => exact ⟨a, b, c, d, e, f, rfl⟩
theorem three8 (l : List UInt8) (h : l.length = 3) : ∃ a b c, l = [a, b, c] := by
  match l, h with
  | [a, b, c], _ => exact ⟨a, b, c, rfl⟩
/-- The tones of a number of six hex digits. -/
theorem hash_six {l : List UInt8} (h6 : l.length = 6) (ha : l.all hexB = true) : ∃ n : Nat, hxV l = (n : Int) ∧ n < 16777216 ∧ hashC l = some (((n / 65536 : Nat) : Int), ((n / 256 % 256 : Nat) : Int), ((n % 256 : Nat) : Int)) := by
  obtain ⟨a, b, c, d, e, f, rfl⟩ := six8 l h6
  have hb := (hxV_bd _ ha)
  have hh : hashC [a, b, c, d, e, f] = some (16 * hxI a + hxI b, 16 * hxI c + hxI d, 16 * hxI e + hxI f) := by unfold hashC; rw [if_pos ha]; rfl
  simp only [List.all_cons, List.all_nil, Bool.and_true, Bool.and_eq_true] at ha
  obtain ⟨h1, h2, h3, h4, h5, h7⟩ := ha
  have p1 : 0 ≤ hxI a := of_decide_eq_true h1
  have p2 : 0 ≤ hxI b := of_decide_eq_true h2
  have p3 : 0 ≤ hxI c := of_decide_eq_true h3
  have p4 : 0 ≤ hxI d := of_decide_eq_true h4
  have p5 : 0 ≤ hxI e := of_decide_eq_true h5
  have p6 : 0 ≤ hxI f := of_decide_eq_true h7
  have q1 := (hxI_bd a).2
  have q2 := (hxI_bd b).2
  have q3 := (hxI_bd c).2
  have q4 := (hxI_bd d).2
  have q5 := (hxI_bd e).2
  have q6 := (hxI_bd f).2
  have hv : hxV [a, b, c, d, e, f] = ((((hxI a * 16 + hxI b) * 16 + hxI c) * 16 + hxI d) * 16 + hxI e) * 16 + hxI f := by unfold hxV; simp [List.foldl]
  refine ⟨(hxV [a, b, c, d, e, f]).toNat, by omega, by omega, ?_⟩
  rw [hh]
  congr 1
  refine Prod.ext ?_ (Prod.ext ?_ ?_)
  · show 16 * hxI a + hxI b = (((hxV [a, b, c, d, e, f]).toNat / 65536 : Nat) : Int)
    omega
  · show 16 * hxI c + hxI d = (((hxV [a, b, c, d, e, f]).toNat / 256 % 256 : Nat) : Int)
    omega
  · show 16 * hxI e + hxI f = (((hxV [a, b, c, d, e, f]).toNat % 256 : Nat) : Int)
    omega
theorem hash_three (a b c : UInt8) : hashC [a, b, c] = hashC [a, a, b, b, c, c] := by
  unfold hashC
  have e : [a, a, b, b, c, c].all hexB = [a, b, c].all hexB := by
    simp only [List.all_cons, List.all_nil, Bool.and_true]
    cases hexB a <;> cases hexB b <;> cases hexB c <;> rfl
  rw [e]
  split
  · show some _ = some _
    congr 1
    refine Prod.ext ?_ (Prod.ext ?_ ?_)
    · show 17 * hxI a = 16 * hxI a + hxI a
      omega
    · show 17 * hxI b = 16 * hxI b + hxI b
      omega
    · show 17 * hxI c = 16 * hxI c + hxI c
      omega
  · rfl
set_option maxHeartbeats 4000000 in
theorem idig6 (s : ByteArray) (w : World) (hs : s.size ≤ 1048576) (h : ErrL w) (h3 : s.size ≠ 3) : Calls Tryd.prog 49 #[.string s] w fun e w' => e = .returned (colV (hashC s.data.toList)) ∧ Nw w w' := by
  obtain ⟨W, hW⟩ : ∃ W, w.alloc (.cells #[.int .i64 0, .int .i64 0, .int .i64 0] 42) = W := ⟨_, rfl⟩
  have HCB : Hid (CB W w.heap.size) := by show CB _ _; rw [← hW]; exact CB.new w _
  have HNW : Hid (Nw w W) := by show Nw _ _; rw [← hW]; exact (Below.refl _ _).alloc (Nat.le_refl _) _
  have HW : Hid (_ = W) := hW
  clear hW
  have HE : Hid (ErrL W) := h.nw HNW.out
  have e3 : ((s.size : Int) == 3) = false := by rw [beq_eq_false_iff_ne]; omega
  clear h
  go_enter Tryd.func49, Tryd.ntmps49
  go_wp2_with fail
  rw [HW.out]
  refine Calls.mono (iparseU s _ hs HE.out) ?_
  rintro e w1 ⟨n, err, rfl, hp, k1⟩
  have HP : Hid (PuT s n err) := hp
  have HC1 : Hid (CB w1 w.heap.size) := HCB.out.nw k1
  have HN1 : Hid (Nw w w1) := Nw.trans HNW.out k1
  have z0 := HC1.out.c0
  have z1 := HC1.out.c1
  have z2 := HC1.out.c2
  have zf := HC1.out.fz
  clear hp k1
  by_cases h6 : s.size = 6
  · have e6 : ((s.size : Int) != 6) = false := by rw [bne_eq_false_iff_eq]; omega
    have e62 : ((s.size : Int) == 6) = true := by rw [beq_iff_eq]; omega
    cases ha : s.data.toList.all hexB with
    | true =>
      obtain ⟨m, hm1, hm2, hm3⟩ := hash_six (by rw [data_len]; exact h6) ha
      obtain ⟨rfl, hn⟩ := HP.out.yes h6 ha
      rw [hm1] at hn
      subst hn
      have a1 : Go.bits .and .u64 ((m : Int) / 256) 255 = ((m / 256 % 256 : Nat) : Int) := and255 (m / 256) (by omega)
      have a2 : Go.bits .and .u64 (m : Int) 255 = ((m % 256 : Nat) : Int) := and255 m (by omega)
      have d1 : (m : Int) / 65536 = ((m / 65536 : Nat) : Int) := by omega
      have r1 : m / 65536 ≤ 255 := by omega
      have r2 : m / 256 % 256 ≤ 255 := by omega
      have r3 : m % 256 ≤ 255 := by omega
      generalize m / 65536 = R at *
      generalize m / 256 % 256 = G at *
      generalize m % 256 = B at *
      have HA : Hid (colV (hashC s.data.toList) = .tuple #[.agg #[.int .i64 (R : Int), .int .i64 (G : Int), .int .i64 (B : Int)], .bool true]) := by show _ = _; rw [hm3]; rfl
      obtain ⟨y0, y1, y2⟩ := set3c w1 w.heap.size (.int .i64 (R : Int)) (.int .i64 (G : Int)) (.int .i64 (B : Int)) z0 z1 z2
      have Y : Hid _ := And.intro y0 (And.intro y1 y2)
      clear y0 y1 y2 hm1 hm3 ha h6
      go_wp2
      obtain ⟨y0, y1, y2⟩ := Y.out
      exact bodyPost_ret (v := .tuple #[.agg #[.int .i64 (R : Int), .int .i64 (G : Int), .int .i64 (B : Int)], .bool true]) (by simp [results, Tryd.results49, go_sem, y0, y1, y2]) rfl ⟨by rw [HA.out], Nw.set3 HN1.out (Nat.le_refl _) _ _ _⟩
    | false =>
      have HA : Hid (hashC s.data.toList = none) := hash_bad ha
      obtain ⟨t, v, rfl⟩ := HP.out.no h6 ha
      obtain ⟨y0, y1, y2⟩ := set3c w1 w.heap.size (.int .i64 0) (.int .i64 0) (.int .i64 0) z0 z1 z2
      have Y : Hid _ := And.intro y0 (And.intro y1 y2)
      clear y0 y1 y2 ha h6
      go_wp2
      obtain ⟨y0, y1, y2⟩ := Y.out
      exact bodyPost_ret (v := colV none) (by simp [results, Tryd.results49, go_sem, y0, y1, y2, colV]) rfl ⟨by rw [HA.out], Nw.set3 HN1.out (Nat.le_refl _) _ _ _⟩
  · have e6 : ((s.size : Int) != 6) = true := by rw [bne_iff_ne]; omega
    have e62 : ((s.size : Int) == 6) = false := by rw [beq_eq_false_iff_ne]; omega
    have HA : Hid (hashC s.data.toList = none) := hash_len (by rw [data_len]; exact h3) (by rw [data_len]; exact h6)
    obtain ⟨y0, y1, y2⟩ := set3c w1 w.heap.size (.int .i64 0) (.int .i64 0) (.int .i64 0) z0 z1 z2
    have Y : Hid _ := And.intro y0 (And.intro y1 y2)
    clear y0 y1 y2 h6
    go_wp2
    obtain ⟨y0, y1, y2⟩ := Y.out
    exact bodyPost_ret (v := colV none) (by simp [results, Tryd.results49, go_sem, y0, y1, y2, colV]) rfl ⟨by rw [HA.out], Nw.set3 HN1.out (Nat.le_refl _) _ _ _⟩
end Go.Proofs.YtnkmdmmlpidcmaaDoor
namespace Go.Proofs.YtnkmdmmlpidcmaaDoor
open Go.ChangeShapes Go.WideShapes Go.ChangeAt Go.RowKit
set_option linter.unusedVariables false

theorem three_at (s : ByteArray) (h : s.size = 3) : s.data.toList = [s[0]'(by omega), s[1]'(by omega), s[2]'(by omega)] := by
  obtain ⟨a, b, c, e⟩ := three8 s.data.toList (by rw [data_len]; exact h)
  have h0 := getB s 0 (by omega)
  have h1 := getB s 1 (by omega)
  have h2 := getB s 2 (by omega)
  rw [h0, h1, h2]
  simp only [e]
  rfl
set_option maxHeartbeats 8000000 in
theorem idig3 (s : ByteArray) (w : World) (hs : s.size ≤ 1048576) (h : ErrL w) (h3 : s.size = 3) : Calls Tryd.prog 49 #[.string s] w fun e w' => e = .returned (colV (hashC s.data.toList)) ∧ Nw w w' := by
  obtain ⟨W, hW⟩ : ∃ W, w.alloc (.cells #[.int .i64 0, .int .i64 0, .int .i64 0] 42) = W := ⟨_, rfl⟩
  have HCB : Hid (CB W w.heap.size) := by show CB _ _; rw [← hW]; exact CB.new w _
  have HNW : Hid (Nw w W) := by show Nw _ _; rw [← hW]; exact (Below.refl _ _).alloc (Nat.le_refl _) _
  have HW : Hid (_ = W) := hW
  clear hW
  have HE : Hid (ErrL W) := h.nw HNW.out
  have e3 : (s.size : Int) = 3 := by omega
  have l0 : 0 < s.size := by omega
  have l1 : 1 < s.size := by omega
  have l2 : 2 < s.size := by omega
  clear h
  obtain ⟨X, hX⟩ : ∃ X, X = bA [s[0], s[0], s[1], s[1], s[2], s[2]] := ⟨_, rfl⟩
  have HXL : Hid (X.data.toList = [s[0], s[0], s[1], s[1], s[2], s[2]]) := by show _ = _; rw [hX, bA_list]
  have hX6 : X.size = 6 := by rw [hX, bA_size]; rfl
  have HHX : Hid (hashC s.data.toList = hashC X.data.toList) := by show _ = _; rw [HXL.out, three_at s h3, hash_three]
  have hby : ∀ W' : World, ∀ i (hi : i < X.size), (W'.alloc (.cells #[.int .u8 (s[0].toNat : Int), .int .u8 (s[0].toNat : Int), .int .u8 (s[1].toNat : Int), .int .u8 (s[1].toNat : Int), .int .u8 (s[2].toNat : Int), .int .u8 (s[2].toNat : Int)] 5)).cell? ⟨W'.heap.size, 0 + i, none⟩ = some (.int .u8 ((X[i]'hi).toNat : Int)) := fun W' i hi => by
    have hi6 : i < 6 := by omega
    rw [getB X i hi]
    simp only [HXL.out]
    match i, hi6 with
    | 0, _ => simp
    | 1, _ => simp
    | 2, _ => simp
    | 3, _ => simp
    | 4, _ => simp
    | 5, _ => simp
  have hcv : ∀ W' : World, (convert 73 9 (.slice (some ⟨W'.heap.size, 0, none⟩) 6 6)).run Tryd.prog (W'.alloc (.cells #[.int .u8 (s[0].toNat : Int), .int .u8 (s[0].toNat : Int), .int .u8 (s[1].toNat : Int), .int .u8 (s[1].toNat : Int), .int .u8 (s[2].toNat : Int), .int .u8 (s[2].toNat : Int)] 5)).drew = .ok (.string X) (W'.alloc (.cells #[.int .u8 (s[0].toNat : Int), .int .u8 (s[0].toNat : Int), .int .u8 (s[1].toNat : Int), .int .u8 (s[1].toNat : Int), .int .u8 (s[2].toNat : Int), .int .u8 (s[2].toNat : Int)] 5)).drew := fun W' => by
    have := Lib.run_convert_whole (P := Tryd.prog) (W'.alloc (.cells #[.int .u8 (s[0].toNat : Int), .int .u8 (s[0].toNat : Int), .int .u8 (s[1].toNat : Int), .int .u8 (s[1].toNat : Int), .int .u8 (s[2].toNat : Int), .int .u8 (s[2].toNat : Int)] 5)).drew 73 5 9 Tryd.underlying73 Tryd.underlying5 Tryd.underlying9 W'.heap.size 0 X (fun i hi => hby W' i hi) 6
    rw [hX6] at this
    exact this
  clear hby
  have HNA : ∀ o, Hid (Nw W (W.alloc o)) := fun o => (Below.refl _ _).alloc (Nat.le_refl _) _
  rw [HHX.out]
  clear hX
  have hXI : (X.size : Int) = 6 := by omega
  go_enter Tryd.func49, Tryd.ntmps49
  go_wp2
  rw [HW.out]
  go_region
  all_goals
    go_wp2_with fail
    refine Calls.mono (iparseU X _ (by omega) (by first | exact HE.out.nw (HNA _).out | exact HE.out.nw (Below.drew (HNA _).out))) ?_
    rintro e w1 ⟨n, err, rfl, hp, k1⟩
    have HP : Hid (PuT X n err) := hp
    have k2 : Nw W w1 := by first | exact Nw.trans (HNA _).out k1 | exact Nw.trans (Below.drew (HNA _).out) k1
    have HC1 : Hid (CB w1 w.heap.size) := HCB.out.nw k2
    have HN1 : Hid (Nw w w1) := Nw.trans HNW.out k2
    have z0 := HC1.out.c0
    have z1 := HC1.out.c1
    have z2 := HC1.out.c2
    have zf := HC1.out.fz
    clear hp k1 k2 hcv
    cases ha : X.data.toList.all hexB with
    | true =>
      obtain ⟨m, hm1, hm2, hm3⟩ := hash_six (by rw [data_len]; exact hX6) ha
      obtain ⟨rfl, hn⟩ := HP.out.yes hX6 ha
      rw [hm1] at hn
      subst hn
      have a1 : Go.bits .and .u64 ((m : Int) / 256) 255 = ((m / 256 % 256 : Nat) : Int) := and255 (m / 256) (by omega)
      have a2 : Go.bits .and .u64 (m : Int) 255 = ((m % 256 : Nat) : Int) := and255 m (by omega)
      have d1 : (m : Int) / 65536 = ((m / 65536 : Nat) : Int) := by omega
      have r1 : m / 65536 ≤ 255 := by omega
      have r2 : m / 256 % 256 ≤ 255 := by omega
      have r3 : m % 256 ≤ 255 := by omega
      generalize m / 65536 = R at *
      generalize m / 256 % 256 = G at *
      generalize m % 256 = B at *
      have HA : Hid (colV (hashC X.data.toList) = .tuple #[.agg #[.int .i64 (R : Int), .int .i64 (G : Int), .int .i64 (B : Int)], .bool true]) := by show _ = _; rw [hm3]; rfl
      obtain ⟨y0, y1, y2⟩ := set3c w1 w.heap.size (.int .i64 (R : Int)) (.int .i64 (G : Int)) (.int .i64 (B : Int)) z0 z1 z2
      have Y : Hid _ := And.intro y0 (And.intro y1 y2)
      clear y0 y1 y2 hm1 hm3 ha
      go_wp2
      obtain ⟨y0, y1, y2⟩ := Y.out
      exact bodyPost_ret (v := .tuple #[.agg #[.int .i64 (R : Int), .int .i64 (G : Int), .int .i64 (B : Int)], .bool true]) (by simp [results, Tryd.results49, go_sem, y0, y1, y2]) rfl ⟨by rw [HA.out], Nw.set3 HN1.out (Nat.le_refl _) _ _ _⟩
    | false =>
      have HA : Hid (hashC X.data.toList = none) := hash_bad ha
      obtain ⟨t, v, rfl⟩ := HP.out.no hX6 ha
      obtain ⟨y0, y1, y2⟩ := set3c w1 w.heap.size (.int .i64 0) (.int .i64 0) (.int .i64 0) z0 z1 z2
      have Y : Hid _ := And.intro y0 (And.intro y1 y2)
      clear y0 y1 y2 ha
      go_wp2
      obtain ⟨y0, y1, y2⟩ := Y.out
      exact bodyPost_ret (v := colV none) (by simp [results, Tryd.results49, go_sem, y0, y1, y2, colV]) rfl ⟨by rw [HA.out], Nw.set3 HN1.out (Nat.le_refl _) _ _ _⟩
theorem idigits (s : ByteArray) (w : World) (hs : s.size ≤ 1048576) (h : ErrL w) : Calls Tryd.prog 49 #[.string s] w fun e w' => e = .returned (colV (hashC s.data.toList)) ∧ Nw w w' := by
  by_cases h3 : s.size = 3
  · exact idig3 s w hs h h3
  · exact idig6 s w hs h h3
end Go.Proofs.YtnkmdmmlpidcmaaDoor
namespace Go.Proofs.YtnkmdmmlpidcmaaDoor
open Go.ChangeShapes Go.WideShapes Go.ChangeAt Go.RowKit
set_option linter.unusedVariables false

theorem kl_no {x y : ByteArray} (h : x ≠ y) : (x.toList == y.toList) = false := (Lib.bytes_beq_false_iff _ _).2 h
theorem kl_lit (w : World) (l : List ByteArray) (t : TypeId) : LayS (w.alloc (.cells (l.map Value.string).toArray t)) w.heap.size l l.length := by
  refine ⟨by simp, fun i hi => ?_, fun i h1 h2 => absurd h2 (by omega), fun o => World.frozen?_alloc_at _ _ _ _ rfl⟩
  simp [strAt, hi]
def clAt (k : Nat) : C3 := clL.getD k (0, 0, 0)
def clCells : List Value := clL.flatMap fun c => [.int .i64 c.1, .int .i64 c.2.1, .int .i64 c.2.2]
theorem clCells_at : ∀ k, k < 17 → clCells[k * 3]? = some (.int .i64 (clAt k).1) ∧ clCells[k * 3 + 1]? = some (.int .i64 (clAt k).2.1) ∧ clCells[k * 3 + 2]? = some (.int .i64 (clAt k).2.2) := by
  intro k hk
  match k, hk with
  | 0, _ => exact ⟨rfl, rfl, rfl⟩
  | 1, _ => exact ⟨rfl, rfl, rfl⟩
  | 2, _ => exact ⟨rfl, rfl, rfl⟩
  | 3, _ => exact ⟨rfl, rfl, rfl⟩
  | 4, _ => exact ⟨rfl, rfl, rfl⟩
  | 5, _ => exact ⟨rfl, rfl, rfl⟩
  | 6, _ => exact ⟨rfl, rfl, rfl⟩
  | 7, _ => exact ⟨rfl, rfl, rfl⟩
  | 8, _ => exact ⟨rfl, rfl, rfl⟩
  | 9, _ => exact ⟨rfl, rfl, rfl⟩
  | 10, _ => exact ⟨rfl, rfl, rfl⟩
  | 11, _ => exact ⟨rfl, rfl, rfl⟩
  | 12, _ => exact ⟨rfl, rfl, rfl⟩
  | 13, _ => exact ⟨rfl, rfl, rfl⟩
  | 14, _ => exact ⟨rfl, rfl, rfl⟩
  | 15, _ => exact ⟨rfl, rfl, rfl⟩
  | 16, _ => exact ⟨rfl, rfl, rfl⟩
  | n + 17, h => exact absurd h (by omega)
/-- The colors of the names, in a block. -/
def LayC (w : World) (g : Nat) : Prop := g < w.heap.size ∧ ∀ k, k < 17 → w.cell? ⟨g, k * 3, none⟩ = some (.int .i64 (clAt k).1) ∧ w.cell? ⟨g, k * 3 + 1, none⟩ = some (.int .i64 (clAt k).2.1) ∧ w.cell? ⟨g, k * 3 + 2, none⟩ = some (.int .i64 (clAt k).2.2)
theorem LayC.lit (w : World) (t : TypeId) : LayC (w.alloc (.cells clCells.toArray t)) w.heap.size := by
  have e : ∀ o, (w.alloc (.cells clCells.toArray t)).cell? ⟨w.heap.size, o, none⟩ = clCells[o]? := fun o => by simp
  refine ⟨by simp, fun k hk => ?_⟩
  rw [e, e, e]
  exact clCells_at k hk
theorem LayC.nw {w w' : World} {g : Nat} (h : LayC w g) (k : Nw w w') : LayC w' g :=
  ⟨Nat.lt_of_lt_of_le h.1 (Below.size k), fun i hi => ⟨((bcell k).1 _ _ h.1).trans (h.2 i hi).1, ((bcell k).1 _ _ h.1).trans (h.2 i hi).2.1, ((bcell k).1 _ _ h.1).trans (h.2 i hi).2.2⟩⟩
theorem name_yes {t : List UInt8} {k : Nat} (hk : k < 17) (h : strAt nmL k = bA (lowL t)) (hno : ∀ j, j < k → strAt nmL j ≠ bA (lowL t)) : nameC t = some (clAt k) := by
  have hl : nmL.length = 17 := rfl
  have hc : clL.length = 17 := rfl
  have e : nameI (bA (lowL t)) = k := by
    unfold nameI
    rw [List.findIdx_eq (by omega)]
    refine ⟨?_, fun j hj => ?_⟩
    · rw [← h]; simp [strAt, hl, hk]
    · have := hno j hj
      rw [show strAt nmL j = nmL[j]'(by omega) by simp [strAt, hl, show j < 17 by omega]] at this
      simpa using this
  unfold nameC clAt
  rw [e]
  simp [hc, hk]
theorem name_no {t : List UInt8} (hno : ∀ j, j < 17 → strAt nmL j ≠ bA (lowL t)) : nameC t = none := by
  have hl : nmL.length = 17 := rfl
  have hc : clL.length = 17 := rfl
  have e : nameI (bA (lowL t)) = 17 := by
    unfold nameI
    rw [← hl, List.findIdx_eq_length]
    intro x hx
    obtain ⟨j, hj, rfl⟩ := List.getElem_of_mem hx
    have := hno j (by omega)
    rw [show strAt nmL j = nmL[j]'(by omega) by simp [strAt, hj]] at this
    simpa using this
  unfold nameC
  rw [e]
  rfl
set_option maxHeartbeats 4000000 in
theorem snamed (s : ByteArray) (w : World) (hs : s.size ≤ 1048576) : Calls Tryd.prog 82 #[.string s] w fun e w' => e = .returned (colV (nameC s.data.toList)) ∧ Nw w w' := by
  have HCB : Hid (CB (w.alloc (.cells #[.int .i64 0, .int .i64 0, .int .i64 0] 42)) w.heap.size) := CB.new w _
  have HLW : Hid (∀ W, Calls Tryd.prog 72 #[.string s] W fun e w' => e = .returned (.string (bA (lowL s.data.toList))) ∧ Nw W w') := fun W => slow s W hs
  have HY : Hid (∀ k, k < 17 → strAt nmL k = bA (lowL s.data.toList) → (∀ j, j < k → strAt nmL j ≠ bA (lowL s.data.toList)) → nameC s.data.toList = some (clAt k)) := fun k h1 h2 h3 => name_yes h1 h2 h3
  have HNO : Hid ((∀ j, j < 17 → strAt nmL j ≠ bA (lowL s.data.toList)) → nameC s.data.toList = none) := name_no
  have HA1 : ∀ W : World, Hid (∀ o, Nw W (W.alloc o)) := fun W o => (Below.refl _ _).alloc (Nat.le_refl _) _
  have HL1 : ∀ W : World, Hid (LayS (W.alloc (.cells (nmL.map Value.string).toArray 9)) W.heap.size nmL 17) := fun W => kl_lit W nmL 9
  have HL2 : ∀ W : World, Hid (LayC (W.alloc (.cells clCells.toArray 42)) W.heap.size) := fun W => LayC.lit W _
  generalize bA (lowL s.data.toList) = L at *
  go_enter Tryd.func82, Tryd.ntmps82
  go_wp2
  go_loopw [29] (fun i wr => ∃ k : Nat, k ≤ 17 ∧ i = .int .i64 k ∧ (∀ j, j < k → strAt nmL j ≠ L) ∧ CB wr w.heap.size ∧ LayS wr (w.heap.size + 1) nmL 17 ∧ LayC wr (w.heap.size + 1 + 1) ∧ Nw w wr) (fun i _ => 17 - (intOf i).toNat)
  case atStart =>
    have n1 := (HA1 w).out (.cells #[.int .i64 0, .int .i64 0, .int .i64 0] 42)
    have z1 : (w.alloc (.cells #[.int .i64 0, .int .i64 0, .int .i64 0] 42)).heap.size = w.heap.size + 1 := by simp
    have hc := HCB.out
    generalize w.alloc (.cells #[.int .i64 0, .int .i64 0, .int .i64 0] 42) = W1 at *
    have n2 := (HA1 W1).out (.cells (nmL.map Value.string).toArray 9)
    have l2 := (HL1 W1).out
    have z2 : (W1.alloc (.cells (nmL.map Value.string).toArray 9)).heap.size = W1.heap.size + 1 := by simp
    rw [z1] at l2 z2
    have hW2 : (W1.alloc (.cells (nmL.map Value.string).toArray 9)) = (W1.alloc (.cells (nmL.map Value.string).toArray 9)) := rfl
    refine ⟨0, Nat.zero_le _, rfl, (fun j hj => absurd hj (by omega)), ?_, ?_, ?_, ?_⟩
    · exact (hc.nw n2).nw ((HA1 _).out _)
    · exact LayS.nw l2 ((HA1 _).out _)
    · have l3 := (HL2 (W1.alloc (.cells (nmL.map Value.string).toArray 9))).out
      rw [z2] at l3
      exact l3
    · exact Nw.trans n1 (Nw.trans n2 ((HA1 _).out _))
  case round =>
    obtain ⟨k, hk, rfl, hno, hcb, hl1, hl2, hw⟩ := hrel
    have HN : Hid (∀ j, j < k → strAt nmL j ≠ L) := hno
    have H1 : Hid (CB wr w.heap.size) := hcb
    have H2 : Hid (LayS wr (w.heap.size + 1) nmL 17) := hl1
    have H3 : Hid (LayC wr (w.heap.size + 1 + 1)) := hl2
    have HW : Hid (Nw w wr) := hw
    clear hno hcb hl1 hl2 hw
    by_cases hlt : k < 17
    · have hltI : (k : Int) < 17 := by omega
      have q0 := H2.out.2.1 k hlt
      have qb := H2.out.1
      have HYK : Hid _ := HY.out k hlt
      by_cases he : strAt nmL k = L
      · have HE : Hid (nameC s.data.toList = some (clAt k)) := HYK.out he HN.out
        have hqq : ((strAt nmL k).toList == L.toList) = true := by rw [he]; simp
        clear he HYK
        generalize strAt nmL k = n at *
        go_wp2_with fail
        refine Calls.mono (HLW.out _) ?_
        rintro e w1 ⟨rfl, k1⟩
        obtain ⟨z0, z1, z2, zf⟩ : w1.cell? ⟨w.heap.size, 0, none⟩ = some (.int .i64 0) ∧ w1.cell? ⟨w.heap.size, 1, none⟩ = some (.int .i64 0) ∧ w1.cell? ⟨w.heap.size, 2, none⟩ = some (.int .i64 0) ∧ ∀ o, w1.frozen? ⟨w.heap.size, o, none⟩ = false := ⟨(H1.out.nw k1).c0, (H1.out.nw k1).c1, (H1.out.nw k1).c2, (H1.out.nw k1).fz⟩
        obtain ⟨c0, c1, c2⟩ := (H3.out.nw k1).2 k hlt
        have cb := (H3.out.nw k1).1
        have HNW : Hid (Nw w w1) := Nw.trans HW.out k1
        clear k1 q0 qb
        generalize clAt k = cl at *
        obtain ⟨y0, y1, y2⟩ := set3c w1 w.heap.size (.int .i64 cl.1) (.int .i64 cl.2.1) (.int .i64 cl.2.2) z0 z1 z2
        have Y : Hid _ := And.intro y0 (And.intro y1 y2)
        clear y0 y1 y2
        go_wp2
        obtain ⟨y0, y1, y2⟩ := Y.out
        exact bodyPost_ret (v := colV (some cl)) (by simp [results, Tryd.results82, go_sem, y0, y1, y2, colV]) rfl ⟨by rw [HE.out], Nw.set3 HNW.out (Nat.le_refl _) _ _ _⟩
      · have hqq := kl_no he
        have HO : Hid (∀ j, j < k + 1 → strAt nmL j ≠ L) := fun j hj => by
          by_cases e : j = k
          · subst e; exact he
          · exact HN.out j (by omega)
        clear he HYK
        generalize strAt nmL k = n at *
        go_wp2_with fail
        refine Calls.mono (HLW.out _) ?_
        rintro e w1 ⟨rfl, k1⟩
        have HK : Hid (Nw wr w1) := k1
        clear k1 q0 qb
        go_wp2
        go_roundw
        case rel => exact ⟨k + 1, by omega, by go_num, HO.out, H1.out.nw HK.out, LayS.nw H2.out HK.out, H3.out.nw HK.out, Nw.trans HW.out HK.out⟩
        case measure => simp [intOf]; omega
    · have hke : k = 17 := by omega
      subst hke
      have HE : Hid (nameC s.data.toList = none) := HNO.out HN.out
      obtain ⟨z0, z1, z2, zf⟩ : wr.cell? ⟨w.heap.size, 0, none⟩ = some (.int .i64 0) ∧ wr.cell? ⟨w.heap.size, 1, none⟩ = some (.int .i64 0) ∧ wr.cell? ⟨w.heap.size, 2, none⟩ = some (.int .i64 0) ∧ ∀ o, wr.frozen? ⟨w.heap.size, o, none⟩ = false := ⟨H1.out.c0, H1.out.c1, H1.out.c2, H1.out.fz⟩
      obtain ⟨y0, y1, y2⟩ := set3c wr w.heap.size (.int .i64 0) (.int .i64 0) (.int .i64 0) z0 z1 z2
      have Y : Hid _ := And.intro y0 (And.intro y1 y2)
      clear y0 y1 y2 hlt
      go_wp2
      obtain ⟨y0, y1, y2⟩ := Y.out
      exact bodyPost_ret (v := colV none) (by simp [results, Tryd.results82, go_sem, y0, y1, y2, colV]) rfl ⟨by rw [HE.out], Nw.set3 HW.out (Nat.le_refl _) _ _ _⟩
end Go.Proofs.YtnkmdmmlpidcmaaDoor

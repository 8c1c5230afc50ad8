/-
  The law on ReadFixed returns true at every string, and its argument reads afterwards as it read before; there is no further condition.
-/
import Derived.Test.YtpmclnmdedbfbabSpec
import Derived.Test.YtpmclnmdedbfbabDecAm
import Derived.Test.YtpmclnmdedbfbabDecAp
import Derived.Test.YtpmclnmdedbfbabDecAn
import Derived.Test.YtpmclnmdedbfbabDecBm
import Derived.Test.YtpmclnmdedbfbabDecBp
import Derived.Test.YtpmclnmdedbfbabDecBn
import Derived.Test.YtpmclnmdedbfbabDecC1m
import Derived.Test.YtpmclnmdedbfbabDecC1p
import Derived.Test.YtpmclnmdedbfbabDecC1n
import Derived.Test.YtpmclnmdedbfbabDecC2m
import Derived.Test.YtpmclnmdedbfbabDecC2p
import Derived.Test.YtpmclnmdedbfbabDecC2n
import Derived.ShutString
namespace Go.Proofs.Ytpmclnmdedbfbab
open Go.ChangeShapes Go.WideShapes Go.ChangeAt Go.RowKit

theorem read_both (s : ByteArray) (hs : s.size ≤ 1048576) : ∃ r : Int × Bool, (∀ w, Calls Try.prog 7 #[.string s] w fun e w' => e = .returned (.tuple #[.int .i64 r.1, .bool r.2]) ∧ w' = w) ∧ (∀ w, Calls Try.prog 8 #[.string s] w fun e w' => e = .returned (.tuple #[.int .i64 r.1, .bool r.2]) ∧ Kp w w') := by
  match hl : s.data.toList with
  | [] =>
    have h0 : s.size = 0 := size_of s [] hl
    have hc : ∀ h : 0 < s.size, (s[0].toNat : Int) ≠ 45 ∧ (s[0].toNat : Int) ≠ 43 := fun h => absurd h (by omega)
    refine ⟨rf 1 s.data.toList, fun w => sread_of s w _ fun w => dec_gen s 0 1 [] s.data.toList rfl (by simp) (fun i w i1 i2 hd => dec_na s i w hs hc i1 i2 hd) (fun e1 i w i1 i2 he hn hd hx => dec_nb s e1 i w hs hc i1 i2 he hn hd hx)
      (fun e1 i j w i1 i2 he hn hd h46 he2 j1 j2 hd2 => dec_nc1 s e1 i j w hs hc i1 i2 he hn hd h46 he2 j1 j2 hd2) (fun e1 e2 i j w i1 i2 he hn hd h46 he2 j1 j2 hd2 he3 hn2 => dec_nc2 s e1 e2 i j w hs hc i1 i2 he hn hd h46 he2 j1 j2 hd2 he3 hn2) w, fun w => ?_⟩
    exact read_any s s 1 (Or.inl rfl) w (fun w => sign_none s w hs (by rw [hl]; simp) (by rw [hl]; simp)) hs
  | c :: l =>
    have hsz := size_of s _ hl
    rw [List.length_cons] at hsz
    have h0 : 0 < s.size := by omega
    have g0 : s[0] = c := get_of s [] c l hl 0 rfl h0
    have eR : (s.extract 1 s.size).data.toList = l := by rw [Lib.extract_to_end, hl]; rfl
    have sR : (s.extract 1 s.size).size ≤ 1048576 := by rw [size_of _ _ eR]; omega
    by_cases h45 : c = 45
    · have hc : (s[0].toNat : Int) = 45 := by rw [g0, h45]; rfl
      refine ⟨rf (-1) l, fun w => sread_of s w _ fun w => dec_gen s 1 (-1) [c] l rfl hl (fun i w i1 i2 hd => dec_ma s i w hs h0 hc i1 i2 hd) (fun e1 i w i1 i2 he hn hd hx => dec_mb s e1 i w hs h0 hc i1 i2 he hn hd hx)
      (fun e1 i j w i1 i2 he hn hd h46 he2 j1 j2 hd2 => dec_mc1 s e1 i j w hs h0 hc i1 i2 he hn hd h46 he2 j1 j2 hd2) (fun e1 e2 i j w i1 i2 he hn hd h46 he2 j1 j2 hd2 he3 hn2 => dec_mc2 s e1 e2 i j w hs h0 hc i1 i2 he hn hd h46 he2 j1 j2 hd2 he3 hn2) w, fun w => ?_⟩
      have h := read_any s (s.extract 1 s.size) (-1) (Or.inr rfl) w (fun w => sign_minus s w hs h0 (by rw [hl, h45]; rfl)) sR
      rw [eR] at h; exact h
    by_cases h43 : c = 43
    · have hc : (s[0].toNat : Int) = 43 := by rw [g0, h43]; rfl
      refine ⟨rf 1 l, fun w => sread_of s w _ fun w => dec_gen s 1 1 [c] l rfl hl (fun i w i1 i2 hd => dec_pa s i w hs h0 hc i1 i2 hd) (fun e1 i w i1 i2 he hn hd hx => dec_pb s e1 i w hs h0 hc i1 i2 he hn hd hx)
      (fun e1 i j w i1 i2 he hn hd h46 he2 j1 j2 hd2 => dec_pc1 s e1 i j w hs h0 hc i1 i2 he hn hd h46 he2 j1 j2 hd2) (fun e1 e2 i j w i1 i2 he hn hd h46 he2 j1 j2 hd2 he3 hn2 => dec_pc2 s e1 e2 i j w hs h0 hc i1 i2 he hn hd h46 he2 j1 j2 hd2 he3 hn2) w, fun w => ?_⟩
      have h := read_any s (s.extract 1 s.size) 1 (Or.inl rfl) w (fun w => sign_plus s w hs h0 (by rw [hl, h43]; rfl)) sR
      rw [eR] at h; exact h
    · have hc : ∀ h : 0 < s.size, (s[0].toNat : Int) ≠ 45 ∧ (s[0].toNat : Int) ≠ 43 := fun h => by
        rw [g0]
        refine ⟨fun e => h45 ?_, fun e => h43 ?_⟩
        · apply UInt8.toNat_inj.1; have : ((45 : UInt8).toNat : Int) = 45 := rfl; omega
        · apply UInt8.toNat_inj.1; have : ((43 : UInt8).toNat : Int) = 43 := rfl; omega
      refine ⟨rf 1 s.data.toList, fun w => sread_of s w _ fun w => dec_gen s 0 1 [] s.data.toList rfl (by simp) (fun i w i1 i2 hd => dec_na s i w hs hc i1 i2 hd) (fun e1 i w i1 i2 he hn hd hx => dec_nb s e1 i w hs hc i1 i2 he hn hd hx)
      (fun e1 i j w i1 i2 he hn hd h46 he2 j1 j2 hd2 => dec_nc1 s e1 i j w hs hc i1 i2 he hn hd h46 he2 j1 j2 hd2) (fun e1 e2 i j w i1 i2 he hn hd h46 he2 j1 j2 hd2 he3 hn2 => dec_nc2 s e1 e2 i j w hs hc i1 i2 he hn hd h46 he2 j1 j2 hd2 he3 hn2) w, fun w => ?_⟩
      exact read_any s s 1 (Or.inl rfl) w (fun w => sign_none s w hs (by rw [hl]; simp [h45]) (by rw [hl]; simp [h43])) hs
end Go.Proofs.Ytpmclnmdedbfbab

namespace Go.Proofs.Ytpmclnmdedbfbab.fnExactReadFixed
open Go.ChangeShapes Go.WideShapes Go.ChangeAt Go.RowKit
open Go.ChangeMaps (open_string shut_string)
set_option linter.unusedVariables false      -- a walk need not use every 'w<i>' (that an integer argument fits its kind)

theorem own : ownKnob Try.prog.godebug = none := by kernel_rfl

/-! ### STEP 1: THE WALK: the Go text returns true. 'Grown w w'': the world has at most new blocks (Derived/RowKit3.lean). Part the cases AHEAD of 'go_enter' where a test parts the walk; take each callee by a contract of your own. -/
theorem walk (a0 : ByteArray) (w0 : a0.size ≤ maxLen) (w : World) :
    Calls Try.prog 4 #[.string a0] w fun e w' => e = .returned (.bool true) ∧ Grown w w' := by
  by_cases hs : a0.size ≤ 1048576
  · obtain ⟨r, hsp, him⟩ := read_both a0 hs
    have HS : Hid _ := hsp
    have HI : Hid _ := him
    clear hsp him
    obtain ⟨x, b⟩ := r
    go_enter Try.func4, Try.ntmps4
    go_wp2_with fail
    refine (HS.out _).mono ?_
    rintro e w1 ⟨rfl, rfl⟩
    go_wp2_with fail
    refine (HI.out _).mono ?_
    rintro e w2 ⟨rfl, hk⟩
    have HK : Hid (Kp _ _) := hk
    clear hk
    go_wp2
    go_ret
    exact ⟨rfl, Kp.grown HK.out⟩
  · unfold maxLen at w0
    go_enter Try.func4, Try.ntmps4
    go_wp2
    go_ret
    exact ⟨rfl, Grown.refl _⟩

/-! ### THE ROW's STEP: WRITTEN OUT: LEAVE IT -/
set_option maxRecDepth 100000 in
theorem lifted (os : Os) (started : os.Started) (H : Type) (enc : TypeId × Value → H) :
    ReturnsInHanded {} Try.checked os 4 .any (Rows.fnExactReadFixedSpec.pre6 enc Try.prog Try.f4 Rows.fnExactReadFixedRow.domain false) (Rows.fnExactReadFixedSpec.post enc Try.prog Try.f4 false true false false) := by
  refine returnsInHanded_of_change (C := Try.checked) own started (by kernel_rfl) Try.func4
    (ChangeSpec.witness6 (enc := enc) (C := Try.checked) false ⟨#[], #[.string ByteArray.empty], []⟩ 8 (by kernel_rfl) (by kernel_rfl) (by kernel_rfl) (by kernel_rfl)) ?_
  intro W base args ds gs before hval0 hW hcnd _
  have hval : ∀ (j : Nat) t v, Try.f4.params[j]? = some t → args[j]? = some v → Value.okWide Try.prog W .any base t v := hval0
  have hW' := hW
  obtain ⟨p, q, hA0, hV, rfl, hfz, hnd⟩ := hW
  have hA : DataW.TrodAll enc Try.prog W 0 (fun _ => true) true Try.f4.params.toList args.toList ds p := hA0
  rw [Try.params4] at hA hval
  obtain ⟨v0, vs0, d0, ds0, p0, q0, hargs, rfl, rfl, h0, r0⟩ := trodAll_cons hA
  obtain ⟨rfl, rfl, rfl⟩ := trodAll_nil r0
  obtain rfl : args = #[v0] := by cases args; simp_all
  obtain ⟨rfl, rfl⟩ := trodVars_none hV
  obtain ⟨a0, rfl, rfl, rfl, w0⟩ := open_string Try.underlying9 (hval 0 9 v0 rfl rfl) h0
  clear hA0 hval0
  simp only [List.append_nil] at hW'
  refine (walk a0 w0 W).mono fun e W' ⟨he, hg⟩ => ?_
  subst he
  exact ⟨_, rfl, post_of_same (pa := []) (pv := []) hW' (fun _ _ _ => (trodAll_cons_mk (shut_bool Try.underlying4 _) trodAll_mk0)) (fun sp _ => (trodAll_cons_mk (shut_string Try.underlying9 w0) trodAll_mk0)) (fun _ _ => rfl) rfl
    (hg.frame _) hg.2.1 (ok_one (by kernel_rfl) rfl (okWide_bool_mk Try.underlying4 _))⟩

theorem over : Rows.fnExactReadFixedRow.holds Try.pinned (OpenSpec.ofChange Rows.fnExactReadFixedSpec) :=
  OpenClaim.holds_of_wide 4 Try.f4 rfl rfl rfl rfl rfl rfl rfl ⟨rfl, rfl, rfl, rfl, rfl⟩ rfl rfl rfl rfl rfl (by kernel_rfl) Try.func4 (by kernel_rfl)
    (of_decide_eq_true (by kernel_rfl)) (by unfold Func.isWrapper; first | (rw [if_pos (by decide +kernel)]; kernel_rfl) | (rw [if_neg (by decide +kernel)]; exact ⟨rfl, rfl⟩))
    (fun os started H enc _ => lifted os started H enc)

/-- ████ THE STATEMENT ████ -/
theorem proved : Rows.FnExactReadFixedSaid :=
  over
#print axioms proved
end Go.Proofs.Ytpmclnmdedbfbab.fnExactReadFixed

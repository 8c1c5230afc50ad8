/-
  First values of properties and whether they are inherited, the program's and the specification's, and the walks of the laws' texts; each theorem names its conditions.
-/
import Derived.Test.YtaeepbjdhcbofaaPropsB
namespace Go.Proofs.Ytaeepbjdhcbofaa
open Go.ChangeShapes Go.WideShapes Go.ChangeAt Go.RowKit
set_option linter.unusedVariables false

def prNames : List ByteArray := prL.map (·.n)
def prFirsts : List ByteArray := prL.map (·.f)
theorem prNames_at (k : Nat) (h : k < 16) : strAt prNames k = (prAt k).n := by
  have hl : prL.length = 16 := rfl
  simp [strAt, prNames, prAt, hl, h]
theorem prFirsts_at (k : Nat) (h : k < 16) : strAt prFirsts k = (prAt k).f := by
  have hl : prL.length = 16 := rfl
  simp [strAt, prFirsts, prAt, hl, h]
/-- A literal's new row of texts. -/
theorem LayS.lit (w : World) (l : List ByteArray) (t : TypeId) : LayS (w.alloc (.cells (l.map Value.string).toArray t)) w.heap.size l l.length := by
  refine ⟨by simp, fun i hi => ?_, fun i h1 h2 => absurd h2 (by omega), fun o => World.frozen?_alloc_at _ _ _ _ rfl⟩
  simp [strAt, hi]
def fvS (name : ByteArray) : ByteArray := match pf name with | some p => p.f | none => ⟨#[]⟩
def fvI (name : ByteArray) : Bool := match pf name with | some p => p.b | none => false
def fvB (name : ByteArray) : Bool := (pf name).isSome
theorem pfV_eq (name : ByteArray) : ∃ n, pfV name = .tuple #[.agg #[.string n, .string (fvS name), .bool (fvI name)], .bool (fvB name)] := by
  unfold pfV fvS fvI fvB
  cases pf name with
  | none => exact ⟨_, rfl⟩
  | some p => exact ⟨_, rfl⟩
def fvAns (name : ByteArray) : Value := .tuple #[.string (fvS name), .bool (fvB name)]
theorem fvAns_yes {k : Nat} (h : k < 16) : fvAns (prAt k).n = .tuple #[.string (prAt k).f, .bool true] := by unfold fvAns fvS fvB; rw [pf_own k h]; rfl
theorem fvAns_no {name : ByteArray} (h : ∀ j, j < 16 → (prAt j).n ≠ name) : fvAns name = .tuple #[.string ⟨#[]⟩, .bool false] := by unfold fvAns fvS fvB; rw [pf_none h]; rfl
theorem ifirst (w : World) (name : ByteArray) : Calls Try.prog 18 #[.string name] w fun e w' => e = .returned (fvAns name) ∧ Nw w w' := by
  obtain ⟨n, hv⟩ := pfV_eq name
  have HP : Hid (∀ w, Calls Try.prog 29 #[.string name] w fun e w' => e = .returned (.tuple #[.agg #[.string n, .string (fvS name), .bool (fvI name)], .bool (fvB name)]) ∧ Nw w w') := fun w => by
    rw [← hv]; exact propertyOf_any w name
  have HX : Hid (fvAns name = .tuple #[.string (fvS name), .bool (fvB name)]) := rfl
  clear hv
  generalize fvS name = f at *
  generalize fvI name = i at *
  generalize fvB name = b at *
  go_enter Try.func18, Try.ntmps18
  go_wp2_with (go_at_call 29; refine Calls.mono (HP.out _) ?_; rintro e w1 ⟨rfl, k1⟩)
  go_ret2
  exact ⟨by rw [HX.out]; rfl, Nw.trans k1 ((Below.refl _ _).alloc (Nat.le_refl _) _)⟩
theorem iinherits (w : World) (name : ByteArray) : Calls Try.prog 20 #[.string name] w fun e w' => e = .returned (.bool (fvI name)) ∧ Nw w w' := by
  obtain ⟨n, hv⟩ := pfV_eq name
  have HP : Hid (∀ w, Calls Try.prog 29 #[.string name] w fun e w' => e = .returned (.tuple #[.agg #[.string n, .string (fvS name), .bool (fvI name)], .bool (fvB name)]) ∧ Nw w w') := fun w => by
    rw [← hv]; exact propertyOf_any w name
  clear hv
  generalize fvS name = f at *
  generalize fvI name = i at *
  generalize fvB name = b at *
  go_enter Try.func20, Try.ntmps20
  go_wp2_with (go_at_call 29; refine Calls.mono (HP.out _) ?_; rintro e w1 ⟨rfl, k1⟩)
  go_ret
  exact ⟨rfl, Nw.trans k1 ((Below.refl _ _).alloc (Nat.le_refl _) _)⟩
theorem sprops (w : World) : Calls Try.prog 12 #[] w fun e w' => e = .returned (.slice (some ⟨w.heap.size, 0, none⟩) 16 16) ∧ Nw w w' ∧ LayS w' w.heap.size prNames 16 := by
  have HL : Hid (LayS (w.alloc (.cells (prNames.map Value.string).toArray 9)) w.heap.size prNames 16) := LayS.lit w prNames 9
  go_enter Try.func12, Try.ntmps12
  go_wp2
  go_ret
  exact ⟨rfl, (Below.refl _ _).alloc (Nat.le_refl _) _, HL.out⟩
set_option maxHeartbeats 2000000 in
theorem sfirst (w : World) (name : ByteArray) : Calls Try.prog 17 #[.string name] w fun e w' => e = .returned (fvAns name) ∧ Nw w w' := by
  have HL : Hid (LayS (w.alloc (.cells (prFirsts.map Value.string).toArray 9)) w.heap.size prFirsts 16) := LayS.lit w prFirsts 9
  go_enter Try.func17, Try.ntmps17
  go_wp2_with (go_at_call 12; refine Calls.mono (sprops _) ?_; rintro e w1 ⟨rfl, k1, l1⟩; have f1 : Hid (LayS w1 w.heap.size prFirsts 16) := LayS.nw HL.out k1; have l2 : Hid (LayS w1 (w.heap.size + 1) prNames 16) := (by show LayS w1 (w.heap.size + 1) prNames 16; simpa using l1); have HW : Hid (Nw w w1) := Nw.trans ((Below.refl _ _).alloc (Nat.le_refl _) _) k1; clear k1 l1 HL)
  go_loop [10] (fun i => ∃ k : Nat, k ≤ 16 ∧ i = .int .i64 k ∧ ∀ j, j < k → (prAt j).n ≠ name) (fun i => 16 - (intOf i).toNat)
  case atStart => exact ⟨0, Nat.zero_le _, rfl, fun j hj => absurd hj (by omega)⟩
  case round =>
    obtain ⟨k, hk, rfl, hno⟩ := hrel
    have HN : Hid (∀ j, j < k → (prAt j).n ≠ name) := hno
    clear hno
    by_cases hlt : k < 16
    · have hltI : (k : Int) < 16 := by omega
      have q0 := l2.out.2.1 k hlt
      have r0 := f1.out.2.1 k hlt
      rw [prNames_at k hlt] at q0
      rw [prFirsts_at k hlt] at r0
      by_cases he : (prAt k).n = name
      · have HE : Hid (fvAns name = .tuple #[.string (prAt k).f, .bool true]) := by show fvAns name = _; rw [← he]; exact fvAns_yes hlt
        have hqq : ((prAt k).n.toList == name.toList) = true := by rw [he]; simp
        generalize (prAt k).n = n at *
        clear he
        go_wp2
        go_ret2
        exact ⟨by rw [HE.out]; rfl, HW.out⟩
      · have hq := beq_no he
        have HO : Hid (∀ j, j < k + 1 → (prAt j).n ≠ name) := fun j hj => by
          by_cases e : j = k
          · subst e; exact he
          · exact HN.out j (by omega)
        clear he
        go_wp2
        go_round
        case rel => exact ⟨k + 1, by omega, by go_num, HO.out⟩
        case measure => simp [intOf]; omega
    · have e : k = 16 := by omega
      subst e
      have HE : Hid (fvAns name = .tuple #[.string ⟨#[]⟩, .bool false]) := fvAns_no HN.out
      go_wp2
      go_ret2
      exact ⟨by rw [HE.out]; rfl, HW.out⟩
def hasB (l : List ByteArray) (s : ByteArray) : Bool := l.any fun x => decide (x = s)
theorem hasB_yes {l : List ByteArray} {s : ByteArray} {k : Nat} (hk : k < l.length) (h : strAt l k = s) : hasB l s = true := by
  unfold hasB
  rw [List.any_eq_true]
  refine ⟨l[k], List.getElem_mem hk, ?_⟩
  have e : strAt l k = l[k] := by simp [strAt, hk]
  rw [← e]; simpa using h
theorem hasB_no {l : List ByteArray} {s : ByteArray} (h : ∀ j, j < l.length → strAt l j ≠ s) : hasB l s = false := by
  unfold hasB
  rw [List.any_eq_false]
  intro x hx
  obtain ⟨j, hj, rfl⟩ := List.getElem_of_mem hx
  have := h j hj
  have e : strAt l j = l[j] := by simp [strAt, hj]
  rw [e] at this
  simpa using this
/-- A text among texts. -/
theorem shas (w : World) (a : Option Addr) (c : Nat) (l : List ByteArray) (s : ByteArray) (hl : l.length ≤ 1048576) (hr : Strs w a l) :
    Calls Try.prog 30 #[.slice a l.length c, .string s] w fun e w' => e = .returned (.bool (hasB l s)) ∧ w' = w := by
  have HR : Hid (Strs w a l) := hr
  clear hr
  go_enter Try.func30, Try.ntmps30
  go_wp2
  go_loop [9] (fun i => ∃ k : Nat, k ≤ l.length ∧ i = .int .i64 k ∧ ∀ j, j < k → strAt l j ≠ s) (fun i => l.length - (intOf i).toNat)
  case atStart => exact ⟨0, Nat.zero_le _, rfl, fun j hj => absurd hj (by omega)⟩
  case round =>
    obtain ⟨k, hk, rfl, hno⟩ := hrel
    have HN : Hid (∀ j, j < k → strAt l j ≠ s) := hno
    clear hno
    by_cases hlt : k < l.length
    · rcases HR.out with h | ⟨b, off, rfl, hbk, hc⟩
      · rw [h] at hlt; simp at hlt
      have q0 := hc k hlt
      clear hc hbk
      by_cases he : strAt l k = s
      · have HE : Hid (hasB l s = true) := hasB_yes hlt he
        have hqq : ((strAt l k).toList == s.toList) = true := by rw [he]; simp
        generalize strAt l k = n at *
        clear he
        go_wp2
        go_ret
        exact ⟨ret_bool HE.out.symm, rfl⟩
      · have hq := beq_no he
        have HO : Hid (∀ j, j < k + 1 → strAt l j ≠ s) := fun j hj => by
          by_cases e : j = k
          · subst e; exact he
          · exact HN.out j (by omega)
        clear he
        go_wp2
        go_round
        case rel => exact ⟨k + 1, by omega, by go_num, HO.out⟩
        case measure => simp [intOf]; omega
    · have e : k = l.length := by omega
      subst e
      have HE : Hid (hasB l s = false) := hasB_no HN.out
      go_wp2
      go_ret
      exact ⟨ret_bool HE.out.symm, rfl⟩
def prInh : List ByteArray := (prL.filter (·.b)).map (·.n)
theorem inh_eq (name : ByteArray) : hasB prInh name = fvI name := by
  by_cases h : ∃ k, k < 16 ∧ (prAt k).n = name
  · obtain ⟨k, hk, rfl⟩ := h
    unfold fvI
    rw [pf_own k hk]
    rcases (show k = 0 ∨ k = 1 ∨ k = 2 ∨ k = 3 ∨ k = 4 ∨ k = 5 ∨ k = 6 ∨ k = 7 ∨ k = 8 ∨ k = 9 ∨ k = 10 ∨ k = 11 ∨ k = 12 ∨ k = 13 ∨ k = 14 ∨ k = 15 by omega) with rfl | rfl | rfl | rfl | rfl | rfl | rfl | rfl | rfl | rfl | rfl | rfl | rfl | rfl | rfl | rfl
    all_goals kernel_rfl
  · have h' : ∀ j, j < 16 → (prAt j).n ≠ name := fun j hj e => h ⟨j, hj, e⟩
    unfold fvI
    rw [pf_none h']
    unfold hasB
    rw [List.any_eq_false]
    intro x hx
    simp only [prInh, List.mem_map, List.mem_filter] at hx
    obtain ⟨p, ⟨hp, _⟩, rfl⟩ := hx
    obtain ⟨j, hj, rfl⟩ := List.getElem_of_mem hp
    have hl : prL.length = 16 := rfl
    have := h' j (by omega)
    have e : prAt j = prL[j] := by simp [prAt, hj]
    rw [e] at this
    simpa using this
theorem sinherits (w : World) (name : ByteArray) : Calls Try.prog 19 #[.string name] w fun e w' => e = .returned (.bool (fvI name)) ∧ Nw w w' := by
  have HL : Hid (LayS (w.alloc (.cells (prInh.map Value.string).toArray 9)) w.heap.size prInh 11) := LayS.lit w prInh 9
  have HC : Hid (Calls Try.prog 30 #[.slice (some ⟨w.heap.size, 0, none⟩) 11 11, .string name] (w.alloc (.cells (prInh.map Value.string).toArray 9)) fun e w' => e = .returned (.bool (hasB prInh name)) ∧ w' = (w.alloc (.cells (prInh.map Value.string).toArray 9))) :=
    shas (w.alloc (.cells (prInh.map Value.string).toArray 9)) (some ⟨w.heap.size, 0, none⟩) 11 prInh name (by decide) (LayS.strs HL.out)
  have HE : Hid (hasB prInh name = fvI name) := inh_eq name
  go_enter Try.func19, Try.ntmps19
  go_wp2_with (go_at_call 30; refine Calls.mono HC.out ?_; rintro e w1 ⟨rfl, k1⟩)
  go_ret
  exact ⟨ret_bool HE.out, (Below.refl _ _).alloc (Nat.le_refl _) _⟩
theorem walk_fv (w : World) (s : ByteArray) (hs : s.size ≤ maxLen) :
    Calls Try.prog 5 #[.string s] w fun e w' => e = .returned (.bool true) ∧ Below w.heap.size w w' := by
  unfold maxLen at hs
  have h1 : ∀ w, Hid (Calls Try.prog 17 #[.string s] w fun e w' => e = .returned (.tuple #[.string (fvS s), .bool (fvB s)]) ∧ Nw w w') := fun w => sfirst w s
  have h2 : ∀ w, Hid (Calls Try.prog 18 #[.string s] w fun e w' => e = .returned (.tuple #[.string (fvS s), .bool (fvB s)]) ∧ Nw w w') := fun w => ifirst w s
  generalize fvS s = f at *
  generalize fvB s = b at *
  by_cases hl : s.size ≤ 1048576
  · go_enter Try.func5, Try.ntmps5
    go_wp2_with (first | (go_at_call 17; refine Calls.mono (h1 _).out ?_; rintro e w1 ⟨rfl, k1⟩) | (go_at_call 18; refine Calls.mono (h2 _).out ?_; rintro e w2 ⟨rfl, k2⟩))
    go_ret
    exact ⟨rfl, Nw.trans k1 k2⟩
  · go_enter Try.func5, Try.ntmps5
    go_wp2
    go_ret
    exact ⟨rfl, Below.refl _ _⟩
theorem walk_inh (w : World) (s : ByteArray) (hs : s.size ≤ maxLen) :
    Calls Try.prog 6 #[.string s] w fun e w' => e = .returned (.bool true) ∧ Below w.heap.size w w' := by
  unfold maxLen at hs
  have h1 : ∀ w, Hid (Calls Try.prog 19 #[.string s] w fun e w' => e = .returned (.bool (fvI s)) ∧ Nw w w') := fun w => sinherits w s
  have h2 : ∀ w, Hid (Calls Try.prog 20 #[.string s] w fun e w' => e = .returned (.bool (fvI s)) ∧ Nw w w') := fun w => iinherits w s
  generalize fvI s = b at *
  by_cases hl : s.size ≤ 1048576
  · go_enter Try.func6, Try.ntmps6
    go_wp2_with (first | (go_at_call 19; refine Calls.mono (h1 _).out ?_; rintro e w1 ⟨rfl, k1⟩) | (go_at_call 20; refine Calls.mono (h2 _).out ?_; rintro e w2 ⟨rfl, k2⟩))
    go_ret
    exact ⟨rfl, Nw.trans k1 k2⟩
  · go_enter Try.func6, Try.ntmps6
    go_wp2
    go_ret
    exact ⟨rfl, Below.refl _ _⟩
end Go.Proofs.Ytaeepbjdhcbofaa

/-
  Regions that draw their order, whose callees make new memory at most and say nothing of what may be written; each theorem names its conditions.
  A text without its comments, by the specification; each theorem names its conditions.
  The text of a selector, the specification's; each theorem names its conditions.
  The text of a selector, the program's; each theorem names its conditions.
-/
import Derived.Test.YtnkmdmmlpidcmaaGreatDoorJAH
import Derived.Test.YtnkmdmmlpidcmaaGreatDoorJAB
import Derived.Test.YtnkmdmmlpidcmaaGreatDoorJAJ
import Derived.Test.YtnkmdmmlpidcmaaGreatDoorJAK
namespace Go.Proofs.YtnkmdmmlpidcmaaGreatDoor
open Go.ChangeShapes Go.WideShapes Go.ChangeAt Go.RowKit
set_option linter.unusedVariables false

theorem rq_atN {W w : World} {b o : Nat} {v : Value} (k : Nw W w) (h : W.cell? ⟨b, o, none⟩ = some v) : w.cell? ⟨b, o, none⟩ = some v := ((bcell k).1 _ _ (World.block_lt_of_cell? W ⟨b, o, none⟩ h)).trans h
section
variable {ops : Array Oper} {acts : List Nat} {av : Nat → Option Nat} {val0 : Nat → Value} {Wd : Nat → (Nat → Value) → World → Prop} {a0 : Act} {Q : Exit → Act → World → Prop}
theorem st_callGN {γ : Nat → Value} {listed : Array Bool} {a : Act} {w : World} {i d : Nat} {o : Oper} {f : FuncId} {args : Array Value} (hF : FrI ops (valG av val0 γ) a0 listed a) (hC : Clo ops listed) (hW : Wd (phase listed acts) γ w) (ho : ops[i]? = some o) (h2 : ∀ e ∈ o.after, Region.binds .any e = true → listed.getD e.on false = true)
    (hna : i ∉ acts) (hd : o.dst = some d) (hg : o.guard = none) (hav : av d = none) (hrun : (execOp a.eval o).run Tryz.prog w = .ok (.enter f args) w) (hc : Calls Tryz.prog f args w fun e w' => e = .returned (val0 d) ∧ Nw w w') (hk : ∀ w', Nw w w' → Wd (phase listed acts) γ w') :
    wpOp Tryz.prog ops Q i (fun a' w' => InvG ops acts av val0 Wd a0 (listed.setIfInBounds i true) a' w') a w := by
  have hi := hF.lt ho
  unfold wpOp
  rw [ho]
  have hw : Region.wanted o (yielded ops a.tmps) = true := by unfold Region.wanted; rw [hg]
  simp only [hw, if_true]
  refine Or.inl ?_
  unfold Oper.wp
  rw [hrun]
  have e : valG av val0 γ d = val0 d := by unfold valG; rw [hav]
  refine Calls.mono hc ?_
  rintro e' w' ⟨rfl, hkk⟩
  refine ⟨γ, ?_, hC.set hi ho h2, by rw [phase_ne hi acts hna]; exact hk w' hkk⟩
  have := hF.put ho hd
  rw [e] at this
  exact this
theorem st_callWN {γ : Nat → Value} {listed : Array Bool} {a : Act} {w : World} {i d : Nat} {o : Oper} {f : FuncId} {args : Array Value} (hF : FrI ops (valG av val0 γ) a0 listed a) (hC : Clo ops listed) (hW : Wd (phase listed acts) γ w) (ho : ops[i]? = some o) (h2 : ∀ e ∈ o.after, Region.binds .any e = true → listed.getD e.on false = true)
    (hna : i ∉ acts) (hd : o.dst = some d) (hw : Region.wanted o (yielded ops a.tmps) = true) (hav : av d = none) (hrun : (execOp a.eval o).run Tryz.prog w = .ok (.enter f args) w) (hc : Calls Tryz.prog f args w fun e w' => e = .returned (val0 d) ∧ Nw w w') (hk : ∀ w', Nw w w' → Wd (phase listed acts) γ w') :
    wpOp Tryz.prog ops Q i (fun a' w' => InvG ops acts av val0 Wd a0 (listed.setIfInBounds i true) a' w') a w := by
  have hi := hF.lt ho
  unfold wpOp
  rw [ho]
  simp only [hw, if_true]
  refine Or.inl ?_
  unfold Oper.wp
  rw [hrun]
  have e : valG av val0 γ d = val0 d := by unfold valG; rw [hav]
  refine Calls.mono hc ?_
  rintro e' w' ⟨rfl, hkk⟩
  refine ⟨γ, ?_, hC.set hi ho h2, by rw [phase_ne hi acts hna]; exact hk w' hkk⟩
  have := hF.put ho hd
  rw [e] at this
  exact this
end
section
variable {ops : Array Oper} {acts : List Nat} {av : Nat → Option Nat} {val0 : Nat → Value} {Wd : Nat → (Nat → Value) → World → Prop} {a0 : Act} {Q : Exit → Act → World → Prop} {L : List (Option Nat × Op × Option (Nat × Bool))} {ini : List Nat} {nt : Nat}
theorem st_callKN (hL : ops.toList.map tri = L) (hI : ∀ n ∈ ini, a0.eval (.tmp n) = val0 n) (hs : a0.tmps.size = nt) {i d : Nat} {f : FuncId} {args : Array Operand} {ts : Array TypeId} (hl : L[i]? = some (some d, .call { callee := .value (.func f), args := args, argTypes := ts }, none)) (hk : callB ops acts av ini nt i d args = true) (hf : ∀ v w, (callFunc f v).run Tryz.prog w = .ok (.enter f v) w)
    (hx : ∀ γ w n, Wd n γ w → Calls Tryz.prog f (args.toList.map (envR (valG av val0 γ))).toArray w fun e w' => e = .returned (val0 d) ∧ Nw w w') (hp : ∀ γ w n w', Wd n γ w → Nw w w' → Wd n γ w') : StepG ops acts av val0 Wd a0 Q i := by
  intro γ listed a w o hF hC hW h1 ho h2
  obtain ⟨hd, hop, hg⟩ := fieldsL hL hl ho
  obtain ⟨h3, h4, h5⟩ := call_run (w := w) hF ho h2 hI hs hop hk hf
  exact st_callGN hF hC hW ho h2 h3 hd hg h4 h5 (hx γ w _ hW) (fun w' => hp γ w _ w' hW)
end
end Go.Proofs.YtnkmdmmlpidcmaaGreatDoor
namespace Go.Proofs.YtnkmdmmlpidcmaaGreatDoor
open Go.ChangeShapes Go.WideShapes Go.ChangeAt Go.RowKit
set_option linter.unusedVariables false

theorem hd_byte (s : ByteArray) (k : Nat) (h : k < s.size) : s.data.toList.drop k = s[k] :: s.data.toList.drop (k + 1) := by
  rw [drop_at (by rw [data_len]; exact h), getB s k h]
theorem hd_some (s : ByteArray) (k : Nat) (h : k < s.size) : (s.data.toList.drop k).head? = some s[k] := by rw [hd_byte s k h]; rfl
theorem hd_none (s : ByteArray) (k : Nat) (h : ¬ k < s.size) : s.data.toList.drop k = [] := List.drop_eq_nil_of_le (by rw [data_len]; omega)
theorem byte_ne {b : UInt8} (n : Nat) (hn : n < 256) (h : b ≠ UInt8.ofNat n) : ((b.toNat : Int) == (n : Int)) = false ∧ ((b.toNat : Int) != (n : Int)) = true := by
  have e : ((b.toNat : Int) == (n : Int)) = false := by
    rw [beq_eq_false_iff_ne]
    intro e
    apply h
    apply UInt8.toNat_inj.1
    have : (UInt8.ofNat n).toNat = n := UInt8.toNat_ofNat_of_lt (by simpa using hn)
    rw [this]
    omega
  exact ⟨e, by rw [bne, e]; rfl⟩
theorem ext_one (s : ByteArray) (k : Nat) (h : k < s.size) : (s.extract k (k + 1)).data.toList = [s[k]] := by
  rw [ext_mid, bA_list, hd_byte s k h]
  rfl
set_option maxRecDepth 100000 in
set_option maxHeartbeats 8000000 in
theorem sbare (s : ByteArray) (w : World) (hs : s.size ≤ 1048576) :
    Calls Tryz.prog 78 #[.string s] w fun e w' => e = .returned (.string (bareB s)) ∧ w' = w := by
  go_enter Tryz.func78, Tryz.ntmps78
  go_wp2
  go_loop [3, 4] (fun v i => ∃ (pos : Nat) (acc : ByteArray), i = .int .i64 (pos : Int) ∧ v = .string acc ∧ pos ≤ s.size + 2 ∧ acc.data.toList ++ bareL (s.data.toList.drop pos) = bareL s.data.toList) (fun _ i => s.size + 2 - (intOf i).toNat)
  case atStart => exact ⟨0, ⟨#[]⟩, rfl, rfl, by omega, rfl⟩
  case round =>
    obtain ⟨pos, acc, rfl, rfl, hp, hbr⟩ := hrel
    have hac : acc.size ≤ 1048576 := by
      have h1 := congrArg List.length hbr
      have h2 := bareL_len _ s.data.toList (Nat.le_refl _)
      rw [List.length_append, data_len] at h1
      rw [data_len] at h2
      omega
    by_cases hlt : pos < s.size
    · have hd := hd_byte s pos hlt
      have hltI : (pos : Int) < (s.size : Int) := by omega
      have hsz : (s.extract pos (pos + 1)).size ≤ 1048576 := by rw [ByteArray.size_extract]; omega
      have hone := ext_one s pos hlt
      by_cases hC : s[pos] = 47 ∧ (s.data.toList.drop (pos + 1)).head? = some 42
      · have hl1 : pos + 1 < s.size := by
          by_cases h : pos + 1 < s.size
          · exact h
          · rw [hd_none s _ h] at hC; exact absurd hC.2 (by simp)
        have h42 : s[pos + 1] = 42 := by have := hC.2; rw [hd_some s _ hl1] at this; injection this
        have g1 : ((s[pos].toNat : Int) == 47) = true := by rw [hC.1]; rfl
        have g1' : ((s[pos].toNat : Int) != 47) = false := by rw [hC.1]; rfl
        have g2 : ((s[pos + 1].toNat : Int) == 42) = true := by rw [h42]; rfl
        have g2' : ((s[pos + 1].toNat : Int) != 42) = false := by rw [h42]; rfl
        have hge : ¬ ((s.size : Int) ≤ (pos : Int) + 1) := by omega
        have HBR : Hid (∀ k, skipC (s.data.toList.drop (pos + 2)) = s.data.toList.drop (k + 2) → (acc ++ ⟨#[32]⟩).data.toList ++ bareL (s.data.toList.drop (k + 2)) = bareL s.data.toList) := by
          intro k hk
          rw [← hk, ← hbr, hd, hC.1, bareL_begin _ hC.2, List.tail_drop]
          simp
        clear hd hone hC h42 hsz hbr
        go_wp2
        go_loop [5] (fun v => ∃ k : Nat, v = .int .i64 (k : Int) ∧ pos + 2 ≤ k ∧ k ≤ s.size ∧ skipC (s.data.toList.drop (pos + 2)) = skipC (s.data.toList.drop k)) (fun v => s.size - (intOf v).toNat)
        case atStart => exact ⟨pos + 2, by go_num, Nat.le_refl _, by omega, rfl⟩
        case round =>
          obtain ⟨k, rfl, hk1, hk2, hsk⟩ := hrel
          by_cases hkl : k < s.size
          · have hkI : (k : Int) < (s.size : Int) := by omega
            have hdk := hd_byte s k hkl
            by_cases hE : s[k] = 42 ∧ (s.data.toList.drop (k + 1)).head? = some 47
            · have hl2 : k + 1 < s.size := by
                by_cases h : k + 1 < s.size
                · exact h
                · rw [hd_none s _ h] at hE; exact absurd hE.2 (by simp)
              have h47 : s[k + 1] = 47 := by have := hE.2; rw [hd_some s _ hl2] at this; injection this
              have f1 : ((s[k].toNat : Int) == 42) = true := by rw [hE.1]; rfl
              have f2 : ((s[k + 1].toNat : Int) == 47) = true := by rw [h47]; rfl
              have hl2I : (k : Int) + 1 < (s.size : Int) := by omega
              have HO : Hid _ := HBR.out k (by rw [hsk, hdk, hE.1, skipC_end _ hE.2, List.tail_drop])
              clear hdk hE h47 hsk
              go_wp2
              go_round
              case rel => exact ⟨k + 2, _, by go_num, by first | rfl | simp, by omega, HO.out⟩
              case measure => simp [intOf]; omega
            · have HK : Hid (skipC (s.data.toList.drop (pos + 2)) = skipC (s.data.toList.drop (k + 1))) := by show _ = _; rw [hsk, hdk, skipC_step _ _ hE]
              by_cases e1 : s[k] = 42
              · have f1 : ((s[k].toNat : Int) == 42) = true := by rw [e1]; rfl
                by_cases hl2 : k + 1 < s.size
                · have hl2I : (k : Int) + 1 < (s.size : Int) := by omega
                  have e2 : s[k + 1] ≠ 47 := fun h => hE ⟨e1, by rw [hd_some s _ hl2, h]⟩
                  have f2 : ((s[k + 1].toNat : Int) == 47) = false := (byte_ne 47 (by omega) e2).1
                  clear hdk hE hsk e1 e2
                  go_wp2
                  go_round
                  case rel => exact ⟨k + 1, by go_num, by omega, by omega, HK.out⟩
                  case measure => simp [intOf]; omega
                · have hl2I : ¬ ((k : Int) + 1 < (s.size : Int)) := by omega
                  clear hdk hE hsk e1
                  go_wp2
                  go_round
                  case rel => exact ⟨k + 1, by go_num, by omega, by omega, HK.out⟩
                  case measure => simp [intOf]; omega
              · have f1 : ((s[k].toNat : Int) == 42) = false := (byte_ne 42 (by omega) e1).1
                clear hdk hE hsk e1
                go_wp2
                go_round
                case rel => exact ⟨k + 1, by go_num, by omega, by omega, HK.out⟩
                case measure => simp [intOf]; omega
          · have hkI : ¬ ((k : Int) < (s.size : Int)) := by omega
            have HO : Hid _ := HBR.out k (by rw [hsk, hd_none s k hkl, hd_none s (k + 2) (by omega)]; rfl)
            clear hsk
            go_wp2
            go_round
            case rel => exact ⟨k + 2, _, by go_num, by first | rfl | simp, by omega, HO.out⟩
            case measure => simp [intOf]; omega
      · have HS : Hid ((acc ++ s.extract pos (pos + 1)).data.toList ++ bareL (s.data.toList.drop (pos + 1)) = bareL s.data.toList) := by
          show _ = _
          rw [← hbr, hd, bareL_step _ _ hC]
          simp only [ByteArray.data_append, Array.toList_append, hone, List.append_assoc]
          rfl
        by_cases e1 : s[pos] = 47
        · have g1 : ((s[pos].toNat : Int) == 47) = true := by rw [e1]; rfl
          have g1' : ((s[pos].toNat : Int) != 47) = false := by rw [e1]; rfl
          by_cases hl1 : pos + 1 < s.size
          · have hge : ¬ ((s.size : Int) ≤ (pos : Int) + 1) := by omega
            have e2 : s[pos + 1] ≠ 42 := fun h => hC ⟨e1, by rw [hd_some s _ hl1, h]⟩
            have g2 : ((s[pos + 1].toNat : Int) == 42) = false := (byte_ne 42 (by omega) e2).1
            have g2' : ((s[pos + 1].toNat : Int) != 42) = true := (byte_ne 42 (by omega) e2).2
            clear hd hC hbr e1 e2 hone
            go_wp2
            go_round
            case rel => exact ⟨pos + 1, _, by go_num, by first | rfl | simp, by omega, HS.out⟩
            case measure => simp [intOf]; omega
          · have hge : (s.size : Int) ≤ (pos : Int) + 1 := by omega
            clear hd hC hbr e1 hone
            go_wp2
            go_round
            case rel => exact ⟨pos + 1, _, by go_num, by first | rfl | simp, by omega, HS.out⟩
            case measure => simp [intOf]; omega
        · have g1 : ((s[pos].toNat : Int) == 47) = false := (byte_ne 47 (by omega) e1).1
          have g1' : ((s[pos].toNat : Int) != 47) = true := (byte_ne 47 (by omega) e1).2
          clear hd hC hbr e1 hone
          go_wp2
          go_round
          case rel => exact ⟨pos + 1, _, by go_num, by first | rfl | simp, by omega, HS.out⟩
          case measure => simp [intOf]; omega
    · have hltI : ¬ ((pos : Int) < (s.size : Int)) := by omega
      have HR : Hid (acc = bareB s) := by
        show _ = _
        rw [hd_none s pos hlt, bareL_nil, List.append_nil] at hbr
        unfold bareB
        rw [← hbr, bA_data]
      clear hbr
      go_wp2
      go_ret
      exact ⟨by rw [HR.out]; rfl, rfl⟩
end Go.Proofs.YtnkmdmmlpidcmaaGreatDoor
namespace Go.Proofs.YtnkmdmmlpidcmaaGreatDoor
open Go.ChangeShapes Go.WideShapes Go.ChangeAt Go.RowKit
set_option linter.unusedVariables false

/-- What SelectorText answers. -/
def selAns (l : List PD) : Value := if selB l then .tuple #[.string (selT l l.length), .bool true] else .tuple #[.string ⟨#[]⟩, .bool false]
theorem selAns_yes {l : List PD} (h : selB l = true) : selAns l = .tuple #[.string (selT l l.length), .bool true] := by unfold selAns; rw [h]; rfl
theorem selAns_no {l : List PD} (h : selB l = false) : selAns l = .tuple #[.string ⟨#[]⟩, .bool false] := by unfold selAns; rw [h]; rfl
theorem sselectorText (w : World) (a : Option Addr) (c : Nat) (l : List PD) (hl : l.length ≤ 1048576) (hs : smallPs l) (hr : Parts w a l) :
    Calls Tryz.prog 13 #[.slice a l.length c] w fun e w' => e = .returned (selAns l) ∧ Nw w w' := by
  have HR : Hid (Parts w a l) := hr
  have HS : Hid (smallPs l) := hs
  clear hr hs
  by_cases h : selB l = true
  · have HX : Hid (selAns l = .tuple #[.string (selT l l.length), .bool true]) := selAns_yes h
    have hg : Hid ((1 ≤ l.length ∧ l.length ≤ 5) ∧ PsTo l l.length) := (selB_iff l).1 h
    go_enter Tryz.func13, Tryz.ntmps13
    go_wp2_with (first | (go_at_call 28; refine Calls.mono (sgoodSel _ _ _ l hl HS.out HR.out) ?_; rw [h]; rintro e w1 ⟨rfl, k1⟩) | (go_at_call 29; refine Calls.mono (sselT _ _ _ l hg.out.1.2 hg.out.2 (HR.out.nw k1)) ?_; rintro e w2 ⟨rfl, k2⟩))
    go_ret2
    exact ⟨by rw [HX.out]; rfl, k1.trans k2⟩
  · have h' : selB l = false := by simpa using h
    have HX : Hid (selAns l = .tuple #[.string ⟨#[]⟩, .bool false]) := selAns_no h'
    go_enter Tryz.func13, Tryz.ntmps13
    go_wp2_with (go_at_call 28; refine Calls.mono (sgoodSel _ _ _ l hl HS.out HR.out) ?_; rw [h']; rintro e w1 ⟨rfl, k1⟩)
    go_ret2
    exact ⟨by rw [HX.out]; rfl, k1⟩
end Go.Proofs.YtnkmdmmlpidcmaaGreatDoor
namespace Go.Proofs.YtnkmdmmlpidcmaaGreatDoor
open Go.ChangeShapes Go.WideShapes Go.ChangeAt Go.RowKit
set_option linter.unusedVariables false

theorem iselectorText (w : World) (a : Option Addr) (c : Nat) (l : List PD) (hl : l.length ≤ 1048576) (hs : smallPs l) (hr : Parts w a l) :
    Calls Tryz.prog 12 #[.slice a l.length c] w fun e w' => e = .returned (selAns l) ∧ Nw w w' := by
  have HR : Hid (Parts w a l) := hr
  have HS : Hid (smallPs l) := hs
  clear hr hs
  by_cases h : selB l = true
  · have HX : Hid (selAns l = .tuple #[.string (selT l l.length), .bool true]) := selAns_yes h
    have hg : Hid ((1 ≤ l.length ∧ l.length ≤ 5) ∧ PsTo l l.length) := (selB_iff l).1 h
    go_enter Tryz.func12, Tryz.ntmps12
    go_wp2_with (first | (go_at_call 37; refine Calls.mono (igoodSel _ _ _ l hl HS.out HR.out) ?_; rw [h]; rintro e w1 ⟨rfl, k1⟩) | (go_at_call 38; refine Calls.mono (iappSel w1 w1 _ _ l _ ⟨#[]⟩ hg.out.1.2 hg.out.2 (HR.out.nw k1) (Below.refl _ _) (Buf.nil _ _) (by decide)) ?_; rintro e w2 ⟨v2, rfl, k2, b2⟩; rw [nil_app] at b2; have hconv := run_buf b2))
    go_ret2
    exact ⟨by rw [HX.out]; rfl, k1.trans k2⟩
  · have h' : selB l = false := by simpa using h
    have HX : Hid (selAns l = .tuple #[.string ⟨#[]⟩, .bool false]) := selAns_no h'
    go_enter Tryz.func12, Tryz.ntmps12
    go_wp2_with (go_at_call 37; refine Calls.mono (igoodSel _ _ _ l hl HS.out HR.out) ?_; rw [h']; rintro e w1 ⟨rfl, k1⟩)
    go_ret2
    exact ⟨by rw [HX.out]; rfl, k1⟩

def ansS (l : List PD) : ByteArray := if selB l then selT l l.length else ⟨#[]⟩
theorem selAns_eq (l : List PD) : selAns l = .tuple #[.string (ansS l), .bool (selB l)] := by
  unfold selAns ansS
  cases selB l <;> rfl
end Go.Proofs.YtnkmdmmlpidcmaaGreatDoor

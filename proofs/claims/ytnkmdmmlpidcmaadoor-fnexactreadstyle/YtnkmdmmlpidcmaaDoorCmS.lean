/-
  A text without its comments, by the specification; each theorem names its conditions.
-/
import Derived.Test.YtnkmdmmlpidcmaaDoorCmP
import Derived.Test.YtnkmdmmlpidcmaaDoorRsP
namespace Go.Proofs.YtnkmdmmlpidcmaaDoor
open Go.ChangeShapes Go.WideShapes Go.ChangeAt Go.RowKit
set_option linter.unusedVariables false

theorem hd_byte (s : ByteArray) (k : Nat) (h : k < s.size) : s.data.toList.drop k = s[k] :: s.data.toList.drop (k + 1) := by
  rw [drop_at (by rw [data_len]; exact h), getB s k h]
theorem hd_some (s : ByteArray) (k : Nat) (h : k < s.size) : (s.data.toList.drop k).head? = some s[k] := by rw [hd_byte s k h]; rfl
theorem hd_none (s : ByteArray) (k : Nat) (h : ¬ k < s.size) : s.data.toList.drop k = [] := List.drop_eq_nil_of_le (by rw [data_len]; omega)
theorem byte_ne {b : UInt8} (n : Nat) (hn : n < 256) (h : b ≠ UInt8.ofNat n) : ((b.toNat : Int) == (n : Int)) = false ∧ ((b.toNat : Int) != (n : Int)) = true := by
  have e : ((b.toNat : Int) == (n : Int)) = false := by
    rw [beq_eq_false_iff_ne]
    intro e
    apply h
    apply UInt8.toNat_inj.1
    have : (UInt8.ofNat n).toNat = n := UInt8.toNat_ofNat_of_lt (by simpa using hn)
    rw [this]
    omega
  exact ⟨e, by rw [bne, e]; rfl⟩
theorem ext_one (s : ByteArray) (k : Nat) (h : k < s.size) : (s.extract k (k + 1)).data.toList = [s[k]] := by
  rw [ext_mid, bA_list, hd_byte s k h]
  rfl
set_option maxRecDepth 100000 in
set_option maxHeartbeats 8000000 in
theorem sbare (s : ByteArray) (w : World) (hs : s.size ≤ 1048576) :
    Calls Tryd.prog 26 #[.string s] w fun e w' => e = .returned (.string (bareB s)) ∧ w' = w := by
  go_enter Tryd.func26, Tryd.ntmps26
  go_wp2
  go_loop [3, 4] (fun v i => ∃ (pos : Nat) (acc : ByteArray), i = .int .i64 (pos : Int) ∧ v = .string acc ∧ pos ≤ s.size + 2 ∧ acc.data.toList ++ bareL (s.data.toList.drop pos) = bareL s.data.toList) (fun _ i => s.size + 2 - (intOf i).toNat)
  case atStart => exact ⟨0, ⟨#[]⟩, rfl, rfl, by omega, rfl⟩
  case round =>
    obtain ⟨pos, acc, rfl, rfl, hp, hbr⟩ := hrel
    have hac : acc.size ≤ 1048576 := by
      have h1 := congrArg List.length hbr
      have h2 := bareL_len _ s.data.toList (Nat.le_refl _)
      rw [List.length_append, data_len] at h1
      rw [data_len] at h2
      omega
    by_cases hlt : pos < s.size
    · have hd := hd_byte s pos hlt
      have hltI : (pos : Int) < (s.size : Int) := by omega
      have hsz : (s.extract pos (pos + 1)).size ≤ 1048576 := by rw [ByteArray.size_extract]; omega
      have hone := ext_one s pos hlt
      by_cases hC : s[pos] = 47 ∧ (s.data.toList.drop (pos + 1)).head? = some 42
      · have hl1 : pos + 1 < s.size := by
          by_cases h : pos + 1 < s.size
          · exact h
          · rw [hd_none s _ h] at hC; exact absurd hC.2 (by simp)
        have h42 : s[pos + 1] = 42 := by have := hC.2; rw [hd_some s _ hl1] at this; injection this
        have g1 : ((s[pos].toNat : Int) == 47) = true := by rw [hC.1]; rfl
        have g1' : ((s[pos].toNat : Int) != 47) = false := by rw [hC.1]; rfl
        have g2 : ((s[pos + 1].toNat : Int) == 42) = true := by rw [h42]; rfl
        have g2' : ((s[pos + 1].toNat : Int) != 42) = false := by rw [h42]; rfl
        have hge : ¬ ((s.size : Int) ≤ (pos : Int) + 1) := by omega
        have HBR : Hid (∀ k, skipC (s.data.toList.drop (pos + 2)) = s.data.toList.drop (k + 2) → (acc ++ ⟨#[32]⟩).data.toList ++ bareL (s.data.toList.drop (k + 2)) = bareL s.data.toList) := by
          intro k hk
          rw [← hk, ← hbr, hd, hC.1, bareL_begin _ hC.2, List.tail_drop]
          simp
        clear hd hone hC h42 hsz hbr
        go_wp2
        go_loop [5] (fun v => ∃ k : Nat, v = .int .i64 (k : Int) ∧ pos + 2 ≤ k ∧ k ≤ s.size ∧ skipC (s.data.toList.drop (pos + 2)) = skipC (s.data.toList.drop k)) (fun v => s.size - (intOf v).toNat)
        case atStart => exact ⟨pos + 2, by go_num, Nat.le_refl _, by omega, rfl⟩
        case round =>
          obtain ⟨k, rfl, hk1, hk2, hsk⟩ := hrel
          by_cases hkl : k < s.size
          · have hkI : (k : Int) < (s.size : Int) := by omega
            have hdk := hd_byte s k hkl
            by_cases hE : s[k] = 42 ∧ (s.data.toList.drop (k + 1)).head? = some 47
            · have hl2 : k + 1 < s.size := by
                by_cases h : k + 1 < s.size
                · exact h
                · rw [hd_none s _ h] at hE; exact absurd hE.2 (by simp)
              have h47 : s[k + 1] = 47 := by have := hE.2; rw [hd_some s _ hl2] at this; injection this
              have f1 : ((s[k].toNat : Int) == 42) = true := by rw [hE.1]; rfl
              have f2 : ((s[k + 1].toNat : Int) == 47) = true := by rw [h47]; rfl
              have hl2I : (k : Int) + 1 < (s.size : Int) := by omega
              have HO : Hid _ := HBR.out k (by rw [hsk, hdk, hE.1, skipC_end _ hE.2, List.tail_drop])
              clear hdk hE h47 hsk
              go_wp2
              go_round
              case rel => exact ⟨k + 2, _, by go_num, by first | rfl | simp, by omega, HO.out⟩
              case measure => simp [intOf]; omega
            · have HK : Hid (skipC (s.data.toList.drop (pos + 2)) = skipC (s.data.toList.drop (k + 1))) := by show _ = _; rw [hsk, hdk, skipC_step _ _ hE]
              by_cases e1 : s[k] = 42
              · have f1 : ((s[k].toNat : Int) == 42) = true := by rw [e1]; rfl
                by_cases hl2 : k + 1 < s.size
                · have hl2I : (k : Int) + 1 < (s.size : Int) := by omega
                  have e2 : s[k + 1] ≠ 47 := fun h => hE ⟨e1, by rw [hd_some s _ hl2, h]⟩
                  have f2 : ((s[k + 1].toNat : Int) == 47) = false := (byte_ne 47 (by omega) e2).1
                  clear hdk hE hsk e1 e2
                  go_wp2
                  go_round
                  case rel => exact ⟨k + 1, by go_num, by omega, by omega, HK.out⟩
                  case measure => simp [intOf]; omega
                · have hl2I : ¬ ((k : Int) + 1 < (s.size : Int)) := by omega
                  clear hdk hE hsk e1
                  go_wp2
                  go_round
                  case rel => exact ⟨k + 1, by go_num, by omega, by omega, HK.out⟩
                  case measure => simp [intOf]; omega
              · have f1 : ((s[k].toNat : Int) == 42) = false := (byte_ne 42 (by omega) e1).1
                clear hdk hE hsk e1
                go_wp2
                go_round
                case rel => exact ⟨k + 1, by go_num, by omega, by omega, HK.out⟩
                case measure => simp [intOf]; omega
          · have hkI : ¬ ((k : Int) < (s.size : Int)) := by omega
            have HO : Hid _ := HBR.out k (by rw [hsk, hd_none s k hkl, hd_none s (k + 2) (by omega)]; rfl)
            clear hsk
            go_wp2
            go_round
            case rel => exact ⟨k + 2, _, by go_num, by first | rfl | simp, by omega, HO.out⟩
            case measure => simp [intOf]; omega
      · have HS : Hid ((acc ++ s.extract pos (pos + 1)).data.toList ++ bareL (s.data.toList.drop (pos + 1)) = bareL s.data.toList) := by
          show _ = _
          rw [← hbr, hd, bareL_step _ _ hC]
          simp only [ByteArray.data_append, Array.toList_append, hone, List.append_assoc]
          rfl
        by_cases e1 : s[pos] = 47
        · have g1 : ((s[pos].toNat : Int) == 47) = true := by rw [e1]; rfl
          have g1' : ((s[pos].toNat : Int) != 47) = false := by rw [e1]; rfl
          by_cases hl1 : pos + 1 < s.size
          · have hge : ¬ ((s.size : Int) ≤ (pos : Int) + 1) := by omega
            have e2 : s[pos + 1] ≠ 42 := fun h => hC ⟨e1, by rw [hd_some s _ hl1, h]⟩
            have g2 : ((s[pos + 1].toNat : Int) == 42) = false := (byte_ne 42 (by omega) e2).1
            have g2' : ((s[pos + 1].toNat : Int) != 42) = true := (byte_ne 42 (by omega) e2).2
            clear hd hC hbr e1 e2 hone
            go_wp2
            go_round
            case rel => exact ⟨pos + 1, _, by go_num, by first | rfl | simp, by omega, HS.out⟩
            case measure => simp [intOf]; omega
          · have hge : (s.size : Int) ≤ (pos : Int) + 1 := by omega
            clear hd hC hbr e1 hone
            go_wp2
            go_round
            case rel => exact ⟨pos + 1, _, by go_num, by first | rfl | simp, by omega, HS.out⟩
            case measure => simp [intOf]; omega
        · have g1 : ((s[pos].toNat : Int) == 47) = false := (byte_ne 47 (by omega) e1).1
          have g1' : ((s[pos].toNat : Int) != 47) = true := (byte_ne 47 (by omega) e1).2
          clear hd hC hbr e1 hone
          go_wp2
          go_round
          case rel => exact ⟨pos + 1, _, by go_num, by first | rfl | simp, by omega, HS.out⟩
          case measure => simp [intOf]; omega
    · have hltI : ¬ ((pos : Int) < (s.size : Int)) := by omega
      have HR : Hid (acc = bareB s) := by
        show _ = _
        rw [hd_none s pos hlt, bareL_nil, List.append_nil] at hbr
        unfold bareB
        rw [← hbr, bA_data]
      clear hbr
      go_wp2
      go_ret
      exact ⟨by rw [HR.out]; rfl, rfl⟩
end Go.Proofs.YtnkmdmmlpidcmaaDoor

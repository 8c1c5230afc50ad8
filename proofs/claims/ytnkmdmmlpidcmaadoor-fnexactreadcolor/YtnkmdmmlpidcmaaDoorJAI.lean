/-
  A part read from a word by the specification; each theorem names its conditions.
  A text without its comments, by the specification; each theorem names its conditions.
  What a row wants of the call, the world's shape handed to the walk; each theorem names its conditions.
-/
import Derived.Test.YtnkmdmmlpidcmaaDoorJAG
import Derived.Test.YtnkmdmmlpidcmaaDoorJAH
import Derived.Deep.DeepCutAuto
import Derived.Test.YtnkmdmmlpidcmaaDoorRows
import Derived.Handed
import Derived.ProofKit
namespace Go.Proofs.YtnkmdmmlpidcmaaDoor
open Go.ChangeShapes Go.WideShapes Go.ChangeAt Go.RowKit
set_option linter.unusedVariables false

theorem srunL (w : World) (s : ByteArray) (hs : s.size ≤ 1048576) : Calls Tryd.prog 91 #[.string s] w fun e w' => e = .returned (.int .i64 (runL s.data.toList : Nat)) ∧ w' = w := by
  refine (srun w s hs).mono ?_
  rintro e w' ⟨⟨n, h1, rfl⟩, rfl⟩
  exact ⟨by rw [lead_run h1], rfl⟩
theorem runL_le (l : List UInt8) : runL l ≤ l.length := by
  by_cases h : runL l = 0
  · rw [h]; exact Nat.zero_le _
  · exact (run_pos h).2.2
theorem clsS_fuel : ∀ (f g : Nat) (l : List UInt8) (acc : List (List UInt8)), l.length < f → l.length < g → clsS f l acc = clsS g l acc := by
  intro f
  induction f with
  | zero => intro g l acc h; omega
  | succ f ih =>
    intro g l acc h1 h2
    cases g with
    | zero => omega
    | succ g =>
      cases l with
      | nil => rfl
      | cons b t =>
        show (if b = 46 then (if runL t = 0 ∨ acc.length = 4 then none else clsS f (t.drop (runL t)) (acc ++ [t.take (runL t)])) else none) = (if b = 46 then (if runL t = 0 ∨ acc.length = 4 then none else clsS g (t.drop (runL t)) (acc ++ [t.take (runL t)])) else none)
        have hl : (t.drop (runL t)).length < f ∧ (t.drop (runL t)).length < g := by
          simp only [List.length_cons] at h1 h2
          rw [List.length_drop]
          omega
        rw [ih g _ _ hl.1 hl.2]
/-- Classes that are still to be read. -/
def clsR (l : List UInt8) (acc : List (List UInt8)) : Option (List (List UInt8)) := clsS (l.length + 1) l acc
theorem clsR_step (t : List UInt8) (acc : List (List UInt8)) (h1 : runL t ≠ 0) (h2 : acc.length ≠ 4) : clsR (46 :: t) acc = clsR (t.drop (runL t)) (acc ++ [t.take (runL t)]) := by
  unfold clsR
  show (if (46 : UInt8) = 46 then (if runL t = 0 ∨ acc.length = 4 then none else clsS _ (t.drop (runL t)) (acc ++ [t.take (runL t)])) else none) = _
  rw [if_pos rfl, if_neg (by omega)]
  exact clsS_fuel _ _ _ _ (by rw [List.length_drop, List.length_cons]; omega) (Nat.lt_succ_self _)
theorem clsR_bad (t : List UInt8) (acc : List (List UInt8)) (h : runL t = 0 ∨ acc.length = 4) : clsR (46 :: t) acc = none := by
  unfold clsR
  show (if (46 : UInt8) = 46 then (if runL t = 0 ∨ acc.length = 4 then none else clsS _ (t.drop (runL t)) (acc ++ [t.take (runL t)])) else none) = _
  rw [if_pos rfl, if_pos h]
theorem clsR_other (b : UInt8) (t : List UInt8) (acc : List (List UInt8)) (h : b ≠ 46) : clsR (b :: t) acc = none := by
  unfold clsR
  show (if b = 46 then _ else none) = none
  rw [if_neg h]
theorem clsR_nil (acc : List (List UInt8)) : clsR [] acc = some acc := rfl
/-- How far the type goes. -/
def tyN (l : List UInt8) : Nat := if l.head? = some 42 then 1 else runL l
theorem tyN_le (l : List UInt8) : tyN l ≤ l.length := by
  unfold tyN
  split
  · cases l with
    | nil => rename_i h; cases h
    | cons b t => simp
  · exact runL_le l
theorem tyS_N (l : List UInt8) : tyS l = (l.take (tyN l), l.drop (tyN l)) := by
  cases l with
  | nil => simp [tyS]
  | cons b t =>
    unfold tyN tyS
    by_cases h : b = 42
    · simp [h]
    · simp [h]
theorem prs_split {l : List UInt8} (h : l ≠ []) : prs l = match idS (l.drop (tyN l)) with
  | none => none
  | some (id, r) => match clsR r [] with
    | none => none
    | some cs => some ⟨l.take (tyN l), id, cs⟩ := by
  unfold prs clsR
  rw [if_neg h, tyS_N]
  rfl
theorem drop_at {l : List UInt8} {i : Nat} (h : i < l.length) : l.drop i = l[i] :: l.drop (i + 1) := List.drop_eq_getElem_cons h
theorem tail_list (s : ByteArray) (k : Nat) : (s.extract k s.size).data.toList = s.data.toList.drop k := by rw [ext_tail, bA_list]
theorem ext_mid (s : ByteArray) (a n : Nat) : s.extract a (a + n) = bA ((s.data.toList.drop a).take n) := by
  rw [ext_bA, List.drop_take, Nat.add_sub_cancel_left]
/-! ### The state -/
theorem CvP.off {b : Nat} {w : World} {p q : ByteArray} {v : Value} {l : List ByteArray} (h : CvP b w p q v l) (b2 o : Nat) (u : Value) (hne : b ≠ b2) (hv : v.ownBlock ≠ some b2) : CvP b (w.setCell ⟨b2, o, none⟩ u) p q v l := by
  have far : ∀ x, (w.setCell ⟨b2, o, none⟩ u).cell? ⟨b, x, none⟩ = w.cell? ⟨b, x, none⟩ := fun x => World.cell?_setCell_other _ _ _ _ (fun e => by injection e; omega)
  exact ⟨(far 0).trans h.c0, (far 1).trans h.c1, (far 2).trans h.c2, fun x => by rw [World.frozen?_setCell]; exact h.free x, Txs.far h.own _ _ _ hv⟩
theorem CvP.low {b B : Nat} {w w' : World} {p q : ByteArray} (h : CvP b w p q (.slice none 0 0) []) (k : Below B w w') (hb : b < B) : CvP b w' p q (.slice none 0 0) [] :=
  ⟨(Below.cell k (p := ⟨b, 0, none⟩) hb).trans h.c0, (Below.cell k (p := ⟨b, 1, none⟩) hb).trans h.c1, (Below.cell k (p := ⟨b, 2, none⟩) hb).trans h.c2, fun o => (Below.frozen k (p := ⟨b, o, none⟩) hb).trans (h.free o), Txs.nil _ _⟩
theorem CvP.ty {b : Nat} {w : World} {p q : ByteArray} {v : Value} {l : List ByteArray} (h : CvP b w p q v l) (p' : ByteArray) : CvP b (w.setCell ⟨b, 0, none⟩ (.string p')) p' q v l := by
  have far : ∀ x, x ≠ 0 → (w.setCell ⟨b, 0, none⟩ (.string p')).cell? ⟨b, x, none⟩ = w.cell? ⟨b, x, none⟩ := fun x hx => World.cell?_setCell_other _ _ _ _ (fun e => by injection e; omega)
  exact ⟨World.cell?_setCell_same w ⟨b, 0, none⟩ _ h.c0, (far 1 (by omega)).trans h.c1, (far 2 (by omega)).trans h.c2, fun x => by rw [World.frozen?_setCell]; exact h.free x, Txs.far h.own _ _ _ h.ne⟩
theorem CvP.id {b : Nat} {w : World} {p q : ByteArray} {v : Value} {l : List ByteArray} (h : CvP b w p q v l) (q' : ByteArray) : CvP b (w.setCell ⟨b, 1, none⟩ (.string q')) p q' v l := by
  have far : ∀ x, x ≠ 1 → (w.setCell ⟨b, 1, none⟩ (.string q')).cell? ⟨b, x, none⟩ = w.cell? ⟨b, x, none⟩ := fun x hx => World.cell?_setCell_other _ _ _ _ (fun e => by injection e; omega)
  exact ⟨(far 0 (by omega)).trans h.c0, World.cell?_setCell_same w ⟨b, 1, none⟩ _ h.c1, (far 2 (by omega)).trans h.c2, fun x => by rw [World.frozen?_setCell]; exact h.free x, Txs.far h.own _ _ _ h.ne⟩
structure PSt (w wx : World) (ty id : ByteArray) (v : Value) (cls : List ByteArray) : Prop where
  box : CvP (w.heap.size + 1) wx ty id v cls
  z : CvP w.heap.size wx ⟨#[]⟩ ⟨#[]⟩ (.slice none 0 0) []
  nw : Nw w wx
theorem PSt.ty {w wx : World} {ty id : ByteArray} {v : Value} {cls : List ByteArray} (h : PSt w wx ty id v cls) (ty' : ByteArray) : PSt w (wx.setCell ⟨w.heap.size + 1, 0, none⟩ (.string ty')) ty' id v cls :=
  ⟨h.box.ty ty', h.z.off _ _ _ (by omega) (by simp [Value.ownBlock]), h.nw.setCell (by simp) _⟩
theorem PSt.id {w wx : World} {ty id : ByteArray} {v : Value} {cls : List ByteArray} (h : PSt w wx ty id v cls) (id' : ByteArray) : PSt w (wx.setCell ⟨w.heap.size + 1, 1, none⟩ (.string id')) ty id' v cls :=
  ⟨h.box.id id', h.z.off _ _ _ (by omega) (by simp [Value.ownBlock]), h.nw.setCell (by simp) _⟩
theorem PSt.go {w wx wy : World} {ty id : ByteArray} {v : Value} {cls : List ByteArray} (h : PSt w wx ty id v cls) (k : Nw wx wy) : PSt w wy ty id v cls := ⟨h.box.nw k, h.z.nw k, Nw.trans h.nw k⟩
theorem PSt.put {w wx w' : World} {ty id : ByteArray} {v v' : Value} {cls cls' : List ByteArray} (h : PSt w wx ty id v cls) (k : Ext v v' wx w') (ho : Txs w' (w.heap.size + 1 + 1) v' cls') : PSt w (w'.setCell ⟨w.heap.size + 1, 2, none⟩ v') ty id v' cls' := by
  obtain ⟨h1, h2⟩ := h.box.put k ho
  exact ⟨h1, h.z.low h2 (Nat.lt_succ_self _), Below.trans h.nw (Below.mono h2 (by omega))⟩
theorem PSt.new (w : World) (t : TypeId) : PSt w ((w.alloc (.cells #[.string ⟨#[]⟩, .string ⟨#[]⟩, .slice none 0 0] t)).alloc (.cells #[.string ⟨#[]⟩, .string ⟨#[]⟩, .slice none 0 0] t)) ⟨#[]⟩ ⟨#[]⟩ (.slice none 0 0) [] := by
  have h1 := CvP.new w t ⟨#[]⟩ ⟨#[]⟩
  have h2 := CvP.new (w.alloc (.cells #[.string ⟨#[]⟩, .string ⟨#[]⟩, .slice none 0 0] t)) t ⟨#[]⟩ ⟨#[]⟩
  rw [World.size_alloc] at h2
  exact ⟨h2, h1.nw ((Below.refl _ _).alloc (Nat.le_refl _) _), (((Below.refl _ _).alloc (Nat.le_refl _) _).alloc (by simp) _)⟩
theorem PSt.done {w w9 : World} {ty id : ByteArray} {va : Option Addr} {vc : Nat} {D : List ByteArray} (h : PSt w w9 ty id (.slice va D.length vc) D) (u0 u1 u2 : Value) :
    RowM 1 EStr (((w9.setCell ⟨w.heap.size, 0, none⟩ u0).setCell ⟨w.heap.size, 1, none⟩ u1).setCell ⟨w.heap.size, 2, none⟩ u2) (.slice va D.length vc) D (iv w (((w9.setCell ⟨w.heap.size, 0, none⟩ u0).setCell ⟨w.heap.size, 1, none⟩ u1).setCell ⟨w.heap.size, 2, none⟩ u2)) := by
  have hne : (Value.slice va D.length vc).ownBlock ≠ some w.heap.size := fun e => by have := (World.ownsRow.lt h.box.own _ e).1; omega
  exact RowM.ofTxs (((h.box.own.far _ _ _ hne).far _ _ _ hne).far _ _ _ hne) (fun b h1 h2 => ⟨by omega, h2⟩)
end Go.Proofs.YtnkmdmmlpidcmaaDoor
namespace Go.Proofs.YtnkmdmmlpidcmaaDoor
open Go.ChangeShapes Go.WideShapes Go.ChangeAt Go.RowKit
set_option linter.unusedVariables false

theorem hd_byte (s : ByteArray) (k : Nat) (h : k < s.size) : s.data.toList.drop k = s[k] :: s.data.toList.drop (k + 1) := by
  rw [drop_at (by rw [data_len]; exact h), getB s k h]
theorem hd_some (s : ByteArray) (k : Nat) (h : k < s.size) : (s.data.toList.drop k).head? = some s[k] := by rw [hd_byte s k h]; rfl
theorem hd_none (s : ByteArray) (k : Nat) (h : ¬ k < s.size) : s.data.toList.drop k = [] := List.drop_eq_nil_of_le (by rw [data_len]; omega)
theorem byte_ne {b : UInt8} (n : Nat) (hn : n < 256) (h : b ≠ UInt8.ofNat n) : ((b.toNat : Int) == (n : Int)) = false ∧ ((b.toNat : Int) != (n : Int)) = true := by
  have e : ((b.toNat : Int) == (n : Int)) = false := by
    rw [beq_eq_false_iff_ne]
    intro e
    apply h
    apply UInt8.toNat_inj.1
    have : (UInt8.ofNat n).toNat = n := UInt8.toNat_ofNat_of_lt (by simpa using hn)
    rw [this]
    omega
  exact ⟨e, by rw [bne, e]; rfl⟩
theorem ext_one (s : ByteArray) (k : Nat) (h : k < s.size) : (s.extract k (k + 1)).data.toList = [s[k]] := by
  rw [ext_mid, bA_list, hd_byte s k h]
  rfl
set_option maxRecDepth 100000 in
set_option maxHeartbeats 8000000 in
theorem sbare (s : ByteArray) (w : World) (hs : s.size ≤ 1048576) :
    Calls Tryd.prog 26 #[.string s] w fun e w' => e = .returned (.string (bareB s)) ∧ w' = w := by
  go_enter Tryd.func26, Tryd.ntmps26
  go_wp2
  go_loop [3, 4] (fun v i => ∃ (pos : Nat) (acc : ByteArray), i = .int .i64 (pos : Int) ∧ v = .string acc ∧ pos ≤ s.size + 2 ∧ acc.data.toList ++ bareL (s.data.toList.drop pos) = bareL s.data.toList) (fun _ i => s.size + 2 - (intOf i).toNat)
  case atStart => exact ⟨0, ⟨#[]⟩, rfl, rfl, by omega, rfl⟩
  case round =>
    obtain ⟨pos, acc, rfl, rfl, hp, hbr⟩ := hrel
    have hac : acc.size ≤ 1048576 := by
      have h1 := congrArg List.length hbr
      have h2 := bareL_len _ s.data.toList (Nat.le_refl _)
      rw [List.length_append, data_len] at h1
      rw [data_len] at h2
      omega
    by_cases hlt : pos < s.size
    · have hd := hd_byte s pos hlt
      have hltI : (pos : Int) < (s.size : Int) := by omega
      have hsz : (s.extract pos (pos + 1)).size ≤ 1048576 := by rw [ByteArray.size_extract]; omega
      have hone := ext_one s pos hlt
      by_cases hC : s[pos] = 47 ∧ (s.data.toList.drop (pos + 1)).head? = some 42
      · have hl1 : pos + 1 < s.size := by
          by_cases h : pos + 1 < s.size
          · exact h
          · rw [hd_none s _ h] at hC; exact absurd hC.2 (by simp)
        have h42 : s[pos + 1] = 42 := by have := hC.2; rw [hd_some s _ hl1] at this; injection this
        have g1 : ((s[pos].toNat : Int) == 47) = true := by rw [hC.1]; rfl
        have g1' : ((s[pos].toNat : Int) != 47) = false := by rw [hC.1]; rfl
        have g2 : ((s[pos + 1].toNat : Int) == 42) = true := by rw [h42]; rfl
        have g2' : ((s[pos + 1].toNat : Int) != 42) = false := by rw [h42]; rfl
        have hge : ¬ ((s.size : Int) ≤ (pos : Int) + 1) := by omega
        have HBR : Hid (∀ k, skipC (s.data.toList.drop (pos + 2)) = s.data.toList.drop (k + 2) → (acc ++ ⟨#[32]⟩).data.toList ++ bareL (s.data.toList.drop (k + 2)) = bareL s.data.toList) := by
          intro k hk
          rw [← hk, ← hbr, hd, hC.1, bareL_begin _ hC.2, List.tail_drop]
          simp
        clear hd hone hC h42 hsz hbr
        go_wp2
        go_loop [5] (fun v => ∃ k : Nat, v = .int .i64 (k : Int) ∧ pos + 2 ≤ k ∧ k ≤ s.size ∧ skipC (s.data.toList.drop (pos + 2)) = skipC (s.data.toList.drop k)) (fun v => s.size - (intOf v).toNat)
        case atStart => exact ⟨pos + 2, by go_num, Nat.le_refl _, by omega, rfl⟩
        case round =>
          obtain ⟨k, rfl, hk1, hk2, hsk⟩ := hrel
          by_cases hkl : k < s.size
          · have hkI : (k : Int) < (s.size : Int) := by omega
            have hdk := hd_byte s k hkl
            by_cases hE : s[k] = 42 ∧ (s.data.toList.drop (k + 1)).head? = some 47
            · have hl2 : k + 1 < s.size := by
                by_cases h : k + 1 < s.size
                · exact h
                · rw [hd_none s _ h] at hE; exact absurd hE.2 (by simp)
              have h47 : s[k + 1] = 47 := by have := hE.2; rw [hd_some s _ hl2] at this; injection this
              have f1 : ((s[k].toNat : Int) == 42) = true := by rw [hE.1]; rfl
              have f2 : ((s[k + 1].toNat : Int) == 47) = true := by rw [h47]; rfl
              have hl2I : (k : Int) + 1 < (s.size : Int) := by omega
              have HO : Hid _ := HBR.out k (by rw [hsk, hdk, hE.1, skipC_end _ hE.2, List.tail_drop])
              clear hdk hE h47 hsk
              go_wp2
              go_round
              case rel => exact ⟨k + 2, _, by go_num, by first | rfl | simp, by omega, HO.out⟩
              case measure => simp [intOf]; omega
            · have HK : Hid (skipC (s.data.toList.drop (pos + 2)) = skipC (s.data.toList.drop (k + 1))) := by show _ = _; rw [hsk, hdk, skipC_step _ _ hE]
              by_cases e1 : s[k] = 42
              · have f1 : ((s[k].toNat : Int) == 42) = true := by rw [e1]; rfl
                by_cases hl2 : k + 1 < s.size
                · have hl2I : (k : Int) + 1 < (s.size : Int) := by omega
                  have e2 : s[k + 1] ≠ 47 := fun h => hE ⟨e1, by rw [hd_some s _ hl2, h]⟩
                  have f2 : ((s[k + 1].toNat : Int) == 47) = false := (byte_ne 47 (by omega) e2).1
                  clear hdk hE hsk e1 e2
                  go_wp2
                  go_round
                  case rel => exact ⟨k + 1, by go_num, by omega, by omega, HK.out⟩
                  case measure => simp [intOf]; omega
                · have hl2I : ¬ ((k : Int) + 1 < (s.size : Int)) := by omega
                  clear hdk hE hsk e1
                  go_wp2
                  go_round
                  case rel => exact ⟨k + 1, by go_num, by omega, by omega, HK.out⟩
                  case measure => simp [intOf]; omega
              · have f1 : ((s[k].toNat : Int) == 42) = false := (byte_ne 42 (by omega) e1).1
                clear hdk hE hsk e1
                go_wp2
                go_round
                case rel => exact ⟨k + 1, by go_num, by omega, by omega, HK.out⟩
                case measure => simp [intOf]; omega
          · have hkI : ¬ ((k : Int) < (s.size : Int)) := by omega
            have HO : Hid _ := HBR.out k (by rw [hsk, hd_none s k hkl, hd_none s (k + 2) (by omega)]; rfl)
            clear hsk
            go_wp2
            go_round
            case rel => exact ⟨k + 2, _, by go_num, by first | rfl | simp, by omega, HO.out⟩
            case measure => simp [intOf]; omega
      · have HS : Hid ((acc ++ s.extract pos (pos + 1)).data.toList ++ bareL (s.data.toList.drop (pos + 1)) = bareL s.data.toList) := by
          show _ = _
          rw [← hbr, hd, bareL_step _ _ hC]
          simp only [ByteArray.data_append, Array.toList_append, hone, List.append_assoc]
          rfl
        by_cases e1 : s[pos] = 47
        · have g1 : ((s[pos].toNat : Int) == 47) = true := by rw [e1]; rfl
          have g1' : ((s[pos].toNat : Int) != 47) = false := by rw [e1]; rfl
          by_cases hl1 : pos + 1 < s.size
          · have hge : ¬ ((s.size : Int) ≤ (pos : Int) + 1) := by omega
            have e2 : s[pos + 1] ≠ 42 := fun h => hC ⟨e1, by rw [hd_some s _ hl1, h]⟩
            have g2 : ((s[pos + 1].toNat : Int) == 42) = false := (byte_ne 42 (by omega) e2).1
            have g2' : ((s[pos + 1].toNat : Int) != 42) = true := (byte_ne 42 (by omega) e2).2
            clear hd hC hbr e1 e2 hone
            go_wp2
            go_round
            case rel => exact ⟨pos + 1, _, by go_num, by first | rfl | simp, by omega, HS.out⟩
            case measure => simp [intOf]; omega
          · have hge : (s.size : Int) ≤ (pos : Int) + 1 := by omega
            clear hd hC hbr e1 hone
            go_wp2
            go_round
            case rel => exact ⟨pos + 1, _, by go_num, by first | rfl | simp, by omega, HS.out⟩
            case measure => simp [intOf]; omega
        · have g1 : ((s[pos].toNat : Int) == 47) = false := (byte_ne 47 (by omega) e1).1
          have g1' : ((s[pos].toNat : Int) != 47) = true := (byte_ne 47 (by omega) e1).2
          clear hd hC hbr e1 hone
          go_wp2
          go_round
          case rel => exact ⟨pos + 1, _, by go_num, by first | rfl | simp, by omega, HS.out⟩
          case measure => simp [intOf]; omega
    · have hltI : ¬ ((pos : Int) < (s.size : Int)) := by omega
      have HR : Hid (acc = bareB s) := by
        show _ = _
        rw [hd_none s pos hlt, bareL_nil, List.append_nil] at hbr
        unfold bareB
        rw [← hbr, bA_data]
      clear hbr
      go_wp2
      go_ret
      exact ⟨by rw [HR.out]; rfl, rfl⟩
end Go.Proofs.YtnkmdmmlpidcmaaDoor
namespace Go.Proofs.YtnkmdmmlpidcmaaDoor
open Go.ChangeShapes Go.WideShapes Go.ChangeAt Go.RowKit
set_option linter.unusedVariables false

theorem handed_shaped {H : Type} {enc : TypeId × Value → H} {a : Assume} {C : Checked} {os : Os} {f : FuncId} {fn : Func} {s : ChangeSpec} {conds : List PathCond} {apart fresh handsOn again : Bool} {X : World → Array Value → Prop}
    (hX : ∀ (w w' : World) (args : Array Value), w.heap = w'.heap → X w args → X w' args)
    (own : ownKnob C.prog.godebug = none) (started : os.Started) (noInit : C.prog.inits.idxOf? f = none) (hfn : C.prog.funcs[f]? = some fn)
    (witness : ∃ (w : World) (tape : Tape) (i : Input), w.os = os ∧ (w.forCall tape i).Shaped C.prog ∧ i.vars = [] ∧ Input.okWide C.prog (w.forCall tape i) .any w.heap.size f i ∧
      ((s.pre enc C.prog fn conds apart (w.forCall tape i).memory i.args ∧ X (w.forCall tape i).memory i.args) ∧ sizedMet enc C.prog fn (OpenSpec.ofChange s) apart (w.forCall tape i).memory i.args) ∧ a.holds C.prog (lone (Frame.enter C.prog f i.args .normal) [] (w.forCall tape i)))
    (contract : ∀ (W : World) (base : Nat) (args : Array Value) (ds gs : List (DataW H)) (before : List MemPlace),
      (∀ (j : Nat) t v, fn.params[j]? = some t → args[j]? = some v → Value.okWide C.prog W .any base t v) →
      DataW.Whole enc C.prog fn.params.toList s.vars apart W args.toList ds gs before →
      conds.all (PathCond.test C.prog ⟨fn.params.toList, ds, s.plain.varTypes C.prog, gs⟩) = true →
      (DataW.weightsEach C.prog (fn.params.toList ++ s.plain.varTypes C.prog) (ds ++ gs)).all (· ≤ reachBytes) = true → X W args →
      W.ShapedOpen C.prog →
      a.holds C.prog (lone (Frame.enter C.prog f args .normal) [] W) →
      Calls C.prog f args W fun e W' => ∃ v, e = .returned v ∧ s.post enc C.prog fn apart fresh handsOn again W args v W') :
    ReturnsInHanded a C os f .any (fun w args => (s.pre enc C.prog fn conds apart w args ∧ X w args) ∧ sizedMet enc C.prog fn (OpenSpec.ofChange s) apart w args) (s.post enc C.prog fn apart fresh handsOn again) := by
  refine returnsInHanded_of_calls own started noInit witness fun w tape i _ hsh _ hok hpre hh => ?_
  obtain ⟨_, _, _, fn2, hfn2, _, _, _, _, hval⟩ := hok
  obtain rfl : fn2 = fn := Option.some.inj (hfn2.symm.trans hfn)
  obtain ⟨⟨⟨ds, gs, bf, hw, hc⟩, hx⟩, hz⟩ := hpre
  have call := contract (w.forCall tape i) w.heap.size i.args ds gs bf hval (DataW.Whole.of_heap (w' := w.forCall tape i) (by rfl) hw) hc (hz.weights hw) (hX _ _ _ (by rfl) hx) hsh hh
  refine call.mono fun e W' ⟨v, he, hp⟩ => ?_
  subst he
  exact ChangeSpec.post_blind hp
end Go.Proofs.YtnkmdmmlpidcmaaDoor

/-
  MarksText, the specification's; each theorem names its conditions.
-/
import Derived.Test.YtgjnemmkpbkfhaaDoorMtT
import Derived.Test.YtgjnemmkpbkfhaaDoorMtQ
import Derived.Test.YtgjnemmkpbkfhaaDoorBoxN
import Derived.Test.YtgjnemmkpbkfhaaDoorMkSGood
import Derived.Deep.RegionWith
namespace Go.Proofs.YtgjnemmkpbkfhaaDoor
open Go.ChangeShapes Go.WideShapes Go.ChangeAt Go.RowKit
set_option linter.unusedVariables false

theorem wtN_mono (l : List ND) (k : Nat) : ∀ d, k + d ≤ l.length → wtN l k ≤ wtN l (k + d) := by
  intro d
  induction d with
  | zero => intro _; exact Nat.le_refl _
  | succ d ih =>
    intro h
    have h1 := ih (by omega)
    have h2 := wtN_step l (k + d) (by omega)
    rw [← Nat.add_assoc, h2]
    omega
theorem tX_all {l : List ND} (hg : GoodP l) (hb : bulkL l ≤ 1048576) {k : Nat} (hk : k < l.length) : (tX l k).size ≤ 6300000 := by
  obtain ⟨n, hn⟩ := end_exists hk
  have h1 := (sub_all hg _ k n rfl hn).2
  have h2 := wtN_mono l n (l.length - n) (by have := hn.le; omega)
  rw [show n + (l.length - n) = l.length by have := hn.le; omega] at h2
  have h5 : wtN l l.length ≤ 6300000 := by
    unfold wtN
    rw [List.take_length]
    have := hg.1.2
    omega
  omega
theorem kids_mono (l : List ND) (t : Nat → ByteArray) (k i : Nat) : ∀ n d, (kids l t k i n).size ≤ (kids l t k i (n + d)).size := by
  intro n d
  rw [kids_add, ByteArray.size_append]
  omega
theorem kids_all {l : List ND} (hg : GoodP l) (hb : bulkL l ≤ 1048576) {k : Nat} (hk : k < l.length) (hn : ¬ (nmAt l k).size = 0) (m : Nat) (hm : m ≤ l.length - (k + 1)) : (kids l (tX l) k (k + 1) m).size ≤ 6300000 := by
  have h1 := tX_all hg hb hk
  have h2 := kids_mono l (tX l) k (k + 1) m (l.length - (k + 1) - m)
  rw [show m + (l.length - (k + 1) - m) = l.length - (k + 1) by omega] at h2
  rw [tX_eq hk, if_neg hn] at h1
  split at h1
  · omega
  · simp only [ByteArray.size_append] at h1; omega
theorem head_all {l : List ND} (hg : GoodP l) (hb : bulkL l ≤ 1048576) {k : Nat} (hk : k < l.length) (hn : ¬ (nmAt l k).size = 0) : (headT l k).size ≤ 6300000 := by
  have h1 := tX_all hg hb hk
  rw [tX_eq hk, if_neg hn] at h1
  split at h1
  · simp only [ByteArray.size_append] at h1; omega
  · simp only [ByteArray.size_append] at h1; omega
theorem attsN_low (l : List Pair) (n : Nat) (h : n ≤ l.length) : (attsN l n).size ≤ (attsN l l.length).size := by
  have : ∀ d, (attsN l n).size ≤ (attsN l (n + d)).size := by
    intro d
    induction d with
    | zero => exact Nat.le_refl _
    | succ d ih => rw [← Nat.add_assoc]; show _ ≤ (attsN l (n + d) ++ attT (pairAt l (n + d))).size; rw [ByteArray.size_append]; omega
  have h2 := this (l.length - n)
  rwa [show n + (l.length - n) = l.length by omega] at h2
set_option maxHeartbeats 8000000 in
set_option maxRecDepth 100000 in
theorem stext (a : Option Addr) (c : Nat) (l : List ND) (hg : GoodP l) (hb : bulkL l ≤ 1048576) (hz : Small l) : ∀ d k, l.length - k = d → k < l.length → ∀ w, Nodes w a l →
    Calls Tryd.prog 36 #[.slice a l.length c, .int .i64 k] w fun e w' => e = .returned (.string (tX l k)) ∧ Nw w w' := by
  intro d
  induction d using Nat.strongRecOn with
  | ind d ih =>
    intro k hd hk w hr
    have h60 : l.length ≤ 60 := hg.1.2
    have HIH : Hid (∀ j, k < j → j < l.length → ∀ W, Nodes W a l → Calls Tryd.prog 36 #[.slice a l.length c, .int .i64 j] W fun e w' => e = .returned (.string (tX l j)) ∧ Nw W w') := fun j h1 h2 W hW => ih (l.length - j) (by omega) j rfl h2 W hW
    have HR : Hid (Nodes w a l) := hr
    have HTX := tX_eq hk
    have hkI : (k : Int) < l.length := by omega
    have htx := tX_all hg hb hk
    rcases hr with h | ⟨nb, no, rfl, hnb, hnc⟩
    · rw [h] at hk; simp at hk
    obtain ⟨q0, q1, ⟨aa, cc, q2, qc, qa⟩, q3⟩ := hnc k hk
    have HA : Hid (Attrs w aa (nodeAt l k).attrs) := qa
    have hzt := (hz k hk).text
    have hzl := (hz k hk).len
    have HZA : Hid (∀ i, i < (nodeAt l k).attrs.length → (pairAt (nodeAt l k).attrs i).1.size ≤ 1048576 ∧ (pairAt (nodeAt l k).attrs i).2.size ≤ 1048576) := fun i hi => (hz k hk).attrs i hi
    have hzn := (hz k hk).name
    by_cases h0 : (nmAt l k).size = 0
    · have HX : Hid (tX l k = told (nodeAt l k).text) := by show _ = _; rw [HTX, if_pos h0]
      have hnm : (nodeAt l k).name = ⟨#[]⟩ := empty_of h0
      rw [hnm] at q0
      clear hnc qa ih HTX hz hg hb
      go_enter Tryd.func36, Tryd.ntmps36
      go_wp2_with (go_at_call 81; refine Calls.mono (stold _ _ hzt) ?_; rintro e w1 ⟨rfl, k1⟩)
      go_ret
      exact ⟨by rw [HX.out]; rfl, Nw.trans ((Below.refl _ _).alloc (Nat.le_refl _) _) k1⟩
    · have hn1 := ne_nil (s := (nodeAt l k).name) (by have : (nmAt l k).size = (nodeAt l k).name.size := rfl; omega)
      have hn2 := ne_emp (s := (nodeAt l k).name) (by have : (nmAt l k).size = (nodeAt l k).name.size := rfl; omega)
      have HKA : Hid (∀ m, m ≤ l.length - (k + 1) → (kids l (tX l) k (k + 1) m).size ≤ 6300000) := fun m hm => kids_all hg hb hk h0 m hm
      have hhd := head_all hg hb hk h0
      have HHD : Hid (headT l k = ltT ++ (nodeAt l k).name ++ attsN (nodeAt l k).attrs (nodeAt l k).attrs.length) := rfl
      have HX1 : Hid ((kids l (tX l) k (k + 1) (l.length - (k + 1))).size = 0 → tX l k = headT l k ++ shutT) := fun h => by rw [HTX, if_neg h0, if_pos h]
      have HX2 : Hid (¬ (kids l (tX l) k (k + 1) (l.length - (k + 1))).size = 0 → tX l k = headT l k ++ gtT ++ kids l (tX l) k (k + 1) (l.length - (k + 1)) ++ endT l k) := fun h => by rw [HTX, if_neg h0, if_neg h]
      have HEN : Hid (endT l k = backT ++ (nodeAt l k).name ++ gtT) := rfl
      obtain ⟨WB, hWB⟩ : ∃ WB, WB = w.alloc (.cells #[.string (nodeAt l k).name, .int .i64 (nodeAt l k).up, .slice aa (nodeAt l k).attrs.length cc, .string (nodeAt l k).text] 63) := ⟨_, rfl⟩
      have KB : Hid (Nw w WB) := by show Nw w WB; rw [hWB]; exact (Below.refl _ _).alloc (Nat.le_refl _) _
      have HBX : Hid (BoxN WB w.heap.size (nodeAt l k).name (nodeAt l k).up (.slice aa (nodeAt l k).attrs.length cc) (nodeAt l k).text) := by show BoxN _ _ _ _ _ _; rw [hWB]; exact BoxN.new _ _ _ _ _ _
      have HUPS : Hid (∀ i, i < l.length → w.cell? ⟨nb, no + i * 4 + 1, none⟩ = some (.int .i64 (upAt l i))) := fun i hi => (hnc i hi).2.1
      have HNB : Hid (nb < w.heap.size) := hnb
      clear hnc qa ih HTX hz hg hb
      have hatl : (attsN (nodeAt l k).attrs (nodeAt l k).attrs.length).size ≤ 6300000 := by
        rw [HHD.out, ByteArray.size_append] at hhd
        omega
      have HATL : Hid (∀ n, n ≤ (nodeAt l k).attrs.length → (attsN (nodeAt l k).attrs n).size ≤ 6300000) := fun n hn => Nat.le_trans (attsN_low _ n hn) hatl
      clear hatl
      generalize hNM : (nodeAt l k).name = nm at *
      generalize (nodeAt l k).up = up at *
      generalize (nodeAt l k).text = tx' at *
      generalize (nodeAt l k).attrs = at' at *
      have hs60 : (⟨#[60]⟩ : ByteArray).size = 1 := rfl
      go_enter Tryd.func36, Tryd.ntmps36
      go_wp2
      go_loopw [6, 27] (fun x i wr => ∃ n : Nat, n ≤ at'.length ∧ i = .int .i64 n ∧ x = .string (ltT ++ nm ++ attsN at' n) ∧ Nw WB wr) (fun _ i _ => at'.length - (intOf i).toNat)
      case atStart => exact ⟨0, Nat.zero_le _, rfl, by show Value.string (ltT ++ nm) = .string (ltT ++ nm ++ ByteArray.empty); rw [ByteArray.append_empty], by rw [hWB]; exact Below.refl _ _⟩
      case round =>
        obtain ⟨n, hn, rfl, rfl, hw⟩ := hrel
        have HW : Hid (Nw WB wr) := hw
        clear q0 q1 q2 q3
        by_cases hlt : n < at'.length
        · have hltI : (n : Int) < at'.length := by omega
          rcases HA.out.nw (Nw.trans KB.out hw) with hh | ⟨ab, ao, rfl, hab, hac⟩
          · rw [hh] at hlt; simp at hlt
          obtain ⟨r0, r1⟩ := hac n hlt
          obtain ⟨z1, z2⟩ := HZA.out n hlt
          have HAS : Hid (ltT ++ nm ++ attsN at' (n + 1) = ltT ++ nm ++ attsN at' n ++ (⟨#[32]⟩ ++ (pairAt at' n).1 ++ ⟨#[61, 34]⟩ ++ told (pairAt at' n).2 ++ ⟨#[34]⟩)) := by
            show _ = _
            show ltT ++ nm ++ (attsN at' n ++ attT (pairAt at' n)) = _
            rw [← ByteArray.append_assoc]
            rfl
          have hs1 : (ltT ++ nm ++ attsN at' n).size ≤ 8000000 := by
            have h1 := HATL.out n hn
            have e1 : ltT.size = 1 := rfl
            rw [ByteArray.size_append, ByteArray.size_append, e1]
            omega
          have hts := (told_size (pairAt at' n).2).2
          have HTOLD : ∀ W, Hid (Calls Tryd.prog 81 #[.string (pairAt at' n).2] W fun e w' => e = .returned (.string (told (pairAt at' n).2)) ∧ Nw W w') := fun W => stold W _ z2
          have hts2 : (told (pairAt at' n).2).size ≤ 8000000 := by omega
          clear hac hw hts z2
          generalize (pairAt at' n).1 = px at *
          generalize hpy : (pairAt at' n).2 = py at *
          generalize told py = tp at *
          generalize ltT ++ nm ++ attsN at' n = O2 at *
          clear hpy
          have l1 : (⟨#[32]⟩ : ByteArray).size = 1 := rfl
          have l2 : (⟨#[61, 34]⟩ : ByteArray).size = 2 := rfl
          have l3 : (⟨#[34]⟩ : ByteArray).size = 1 := rfl
          have g1 : ((⟨#[32]⟩ : ByteArray) ++ px).size ≤ 2000000 := by rw [ByteArray.size_append, l1]; omega
          have g2 : ((⟨#[32]⟩ : ByteArray) ++ px ++ ⟨#[61, 34]⟩).size ≤ 2000000 := by rw [ByteArray.size_append, ByteArray.size_append, l1, l2]; omega
          have g3 : ((⟨#[32]⟩ : ByteArray) ++ px ++ ⟨#[61, 34]⟩ ++ tp).size ≤ 20000000 := by rw [ByteArray.size_append, ByteArray.size_append, ByteArray.size_append, l1, l2]; omega
          have g4 : ((⟨#[32]⟩ : ByteArray) ++ px ++ ⟨#[61, 34]⟩ ++ tp ++ ⟨#[34]⟩).size ≤ 20000000 := by rw [ByteArray.size_append, ByteArray.size_append, ByteArray.size_append, ByteArray.size_append, l1, l2, l3]; omega
          go_wp2
          go_region_with (go_at_call 81; refine Calls.mono (HTOLD _).out ?_; rintro e w4 ⟨rfl, k4⟩; have x0 : w4.cell? ⟨wr.heap.size, 0, none⟩ = some (.string px) := ((bcell k4).1 _ _ (by simp)).trans (by simp))
          all_goals
            have HK4 : Hid (Nw WB w4) := by
              show Nw WB w4
              refine Nw.trans (Nw.trans HW.out ?_) k4
              first
                | exact ((Below.refl _ _).alloc (Nat.le_refl _) _).drew
                | exact (Below.refl _ _).drew.alloc (Nat.le_refl _) _
            clear k4 x0
            go_wp2
            go_roundw
            case rel => exact ⟨n + 1, by omega, by go_num, by rw [HAS.out], by first | exact HK4.out | exact Nw.trans HK4.out ((Below.refl _ _).drew)⟩
            case measure => simp [intOf]; omega
        · have e : n = at'.length := by omega
          subst e
          have hltI : ¬ (at'.length : Int) < at'.length := by omega
          have HO : Hid (ltT ++ nm ++ attsN at' at'.length = headT l k) := HHD.out.symm
          rw [HO.out]
          have hup0 : ∀ i, i < l.length → (wr.cell? ⟨nb, no + i * 4 + 1, none⟩ = some (.int .i64 (upAt l i))) := fun i hi => ((bcell (Nw.trans KB.out hw)).1 _ _ HNB.out).trans (HUPS.out i hi)
          clear hw
          generalize hwr : wr = w2 at *
          clear hwr hup0
          go_wp2
          go_loopw [9, 10] (fun x i wr => ∃ m : Nat, m ≤ l.length - (k + 1) ∧ i = .int .i64 ((k + 1 + m : Nat) : Int) ∧ x = .string (kids l (tX l) k (k + 1) m) ∧ Nw WB wr) (fun _ i _ => l.length - (intOf i).toNat)
          case atStart => exact ⟨0, Nat.zero_le _, by go_num, rfl, HW.out⟩
          case round =>
            obtain ⟨m, hm, rfl, rfl, hw3⟩ := hrel
            have HW3 : Hid (Nw WB wr) := hw3
            have hks := HKA.out m hm
            by_cases hlt3 : k + 1 + m < l.length
            · have hlt3I : ((k + 1 + m : Nat) : Int) < l.length := by omega
              have qu := ((bcell (Nw.trans KB.out hw3)).1 _ _ HNB.out).trans (HUPS.out (k + 1 + m) hlt3)
              by_cases hup : upAt l (k + 1 + m) = (k : Int)
              · have HKS : Hid (kids l (tX l) k (k + 1) (m + 1) = kids l (tX l) k (k + 1) m ++ tX l (k + 1 + m)) := by show _ = _; rw [kids, if_pos hup]
                have hks2 := HKA.out (m + 1) (by omega)
                rw [HKS.out, ByteArray.size_append] at hks2
                rw [hup] at qu
                have HREC : Hid (Calls Tryd.prog 36 #[.slice (some ⟨nb, no, none⟩) l.length c, .int .i64 ((k + 1 + m : Nat) : Int)] wr fun e w' => e = .returned (.string (tX l (k + 1 + m))) ∧ Nw wr w') := HIH.out (k + 1 + m) (by omega) hlt3 wr (HR.out.nw (Nw.trans KB.out hw3))
                clear hup hw3
                generalize hI : k + 1 + m = I at *
                generalize tX l I = T9 at *
                generalize kids l (tX l) k (k + 1) m = KD at *
                go_wp2_with (go_at_call 36; refine Calls.mono HREC.out ?_; rintro e w5 ⟨rfl, k5⟩)
                go_roundw
                case rel => exact ⟨m + 1, by omega, by go_num, by rw [HKS.out], HW3.out.trans k5⟩
                case measure => simp [intOf]; omega
              · have HKS : Hid (kids l (tX l) k (k + 1) (m + 1) = kids l (tX l) k (k + 1) m) := by show _ = _; rw [kids, if_neg hup]
                have hq2 : (upAt l (k + 1 + m) == (k : Int)) = false := beq_eq_false_iff_ne.2 hup
                clear hup hw3
                generalize hI : k + 1 + m = I at *
                generalize upAt l I = U at *
                go_wp2
                go_roundw
                case rel => exact ⟨m + 1, by omega, by go_num, by rw [HKS.out], HW3.out⟩
                case measure => simp [intOf]; omega
            · have e : m = l.length - (k + 1) := by omega
              have hlt3I : ¬ ((k + 1 + m : Nat) : Int) < l.length := by omega
              rw [← e] at HX1 HX2
              have d0 := (HBX.out.nw hw3).c0
              have hlh : (headT l k).size ≤ 6300000 := hhd
              clear hw3
              generalize hI : k + 1 + m = I at *
              generalize kids l (tX l) k (k + 1) m = KD at *
              by_cases hk0 : KD.size = 0
              · have HX := HX1.out hk0
                have HXH : Hid (tX l k = headT l k ++ shutT) := HX
                have ls : (⟨#[47, 62]⟩ : ByteArray).size = 2 := rfl
                obtain rfl := empty_of hk0
                clear HX hk0 HX1 HX2
                generalize headT l k = HD at *
                go_wp2
                go_ret
                exact ⟨by rw [HXH.out]; rfl, Nw.trans KB.out HW3.out⟩
              · have HX := HX2.out hk0
                have HXH : Hid (tX l k = headT l k ++ gtT ++ KD ++ (backT ++ nm ++ gtT)) := by show _ = _; rw [HX, HEN.out]
                have kn1 := ne_nil (s := KD) (by omega)
                have kn2 := ne_emp (s := KD) (by omega)
                have ls1 : (⟨#[62]⟩ : ByteArray).size = 1 := rfl
                have ls2 : (⟨#[60, 47]⟩ : ByteArray).size = 2 := rfl
                clear HX hk0 HX1 HX2
                generalize headT l k = HD at *
                have u1 : (HD ++ ⟨#[62]⟩).size ≤ 20000000 := by rw [ByteArray.size_append, ls1]; omega
                have u2 : (HD ++ ⟨#[62]⟩ ++ KD).size ≤ 20000000 := by rw [ByteArray.size_append, ByteArray.size_append, ls1]; omega
                have u3 : (HD ++ ⟨#[62]⟩ ++ KD ++ ⟨#[60, 47]⟩).size ≤ 20000000 := by rw [ByteArray.size_append, ByteArray.size_append, ByteArray.size_append, ls1, ls2]; omega
                have u4 : (HD ++ ⟨#[62]⟩ ++ KD ++ ⟨#[60, 47]⟩ ++ nm).size ≤ 30000000 := by rw [ByteArray.size_append, ByteArray.size_append, ByteArray.size_append, ByteArray.size_append, ls1, ls2]; omega
                have HEQ : Hid (HD ++ ⟨#[62]⟩ ++ KD ++ ⟨#[60, 47]⟩ ++ nm ++ ⟨#[62]⟩ = HD ++ gtT ++ KD ++ (backT ++ nm ++ gtT)) := by
                  show _ = _
                  simp only [ByteArray.append_assoc]
                  rfl
                go_wp2
                go_ret
                exact ⟨by rw [HXH.out, ← HEQ.out]; rfl, Nw.trans KB.out HW3.out⟩
set_option maxHeartbeats 1000000 in
theorem smarks (w : World) (a : Option Addr) (c : Nat) (l : List ND) (hl : l.length ≤ 1048576) (hb : bulkL l ≤ 1048576) (hz : Small l) (hr : Nodes w a l) :
    Calls Tryd.prog 10 #[.slice a l.length c] w fun e w' => e = .returned (mtV l) ∧ Nw w w' := by
  have HR : Hid (Nodes w a l) := hr
  have HZ : Hid (Small l) := hz
  clear hr hz
  by_cases hg : goodB l = true
  · have HP : Hid (GoodP l) := (goodB_iff l).1 hg
    have hts := tX_size HP.out hb
    have HOK : Hid (mtOk l = decide ((tX l 0).size ≤ 3000)) := by show _ = _; unfold mtOk; rw [hg]; rfl
    have HYy : Hid ((tX l 0).size ≤ 3000 → mtV l = .tuple #[.string (tX l 0), .bool true]) := fun h => mtV_yes (by rw [HOK.out]; exact decide_eq_true h)
    have HYn : Hid (¬ (tX l 0).size ≤ 3000 → mtV l = .tuple #[.string ⟨#[]⟩, .bool false]) := fun h => mtV_no (by rw [HOK.out]; exact decide_eq_false h)
    have HTX : ∀ W, Nodes W a l → Hid (Calls Tryd.prog 36 #[.slice a l.length c, .int .i64 0] W fun e w' => e = .returned (.string (tX l 0)) ∧ Nw W w') := fun W hW => stext a c l HP.out hb HZ.out _ 0 rfl HP.out.1.1 W hW
    clear HOK
    generalize tX l 0 = T at *
    by_cases h3 : T.size ≤ 3000
    · have HXH : Hid (mtV l = .tuple #[.string T, .bool true]) := HYy.out h3
      have hd3 : decide ((3000 : Int) < (T.size : Int)) = false := decide_eq_false (by omega)
      clear HYy HYn
      go_enter Tryd.func10, Tryd.ntmps10
      go_wp2_with (first | (go_at_call 35; refine Calls.mono (sgoodNodes _ _ _ l hl HZ.out HR.out) ?_; rw [hg]; rintro e w1 ⟨rfl, k1⟩) | (go_at_call 36; refine Calls.mono (HTX _ (HR.out.nw k1)).out ?_; rintro e w2 ⟨rfl, k2⟩))
      go_ret2
      exact ⟨by rw [HXH.out]; rfl, k1.trans k2⟩
    · have HXH : Hid (mtV l = .tuple #[.string ⟨#[]⟩, .bool false]) := HYn.out h3
      have hd3 : (3000 : Int) < (T.size : Int) := by omega
      clear HYy HYn h3
      go_enter Tryd.func10, Tryd.ntmps10
      go_wp2_with (first | (go_at_call 35; refine Calls.mono (sgoodNodes _ _ _ l hl HZ.out HR.out) ?_; rw [hg]; rintro e w1 ⟨rfl, k1⟩) | (go_at_call 36; refine Calls.mono (HTX _ (HR.out.nw k1)).out ?_; rintro e w2 ⟨rfl, k2⟩))
      go_ret2
      exact ⟨by rw [HXH.out]; rfl, k1.trans k2⟩
  · have hg' : goodB l = false := by simpa using hg
    have HO : Hid (mtV l = .tuple #[.string ⟨#[]⟩, .bool false]) := mtV_no (by unfold mtOk; rw [hg']; rfl)
    go_enter Tryd.func10, Tryd.ntmps10
    go_wp2_with (go_at_call 35; refine Calls.mono (sgoodNodes _ _ _ l hl HZ.out HR.out) ?_; rw [hg']; rintro e w1 ⟨rfl, k1⟩)
    go_ret2
    exact ⟨by rw [HO.out]; rfl, k1⟩
end Go.Proofs.YtgjnemmkpbkfhaaDoor

/-
  What the program's FilterRow and UnfilterRow do for the kind 1; each theorem names its conditions.
  What the program's FilterRow and UnfilterRow do for the kind 2; each theorem names its conditions.
  What the program's FilterRow and UnfilterRow do for the kind 3; each theorem names its conditions.
  What the program's FilterRow and UnfilterRow do for the kind 4; each theorem names its conditions.
-/
import Derived.Test.YtaeicgfebeliiaaGreatDoorJAL
namespace Go.Proofs.YtaeicgfebeliiaaGreatDoor
open Go.ChangeShapes Go.WideShapes Go.ChangeAt Go.RowKit
set_option linter.unusedVariables false
attribute [local go_sem] run_store_func

set_option maxHeartbeats 2000000 in
theorem ifilt1 (W : World) (br or cr ba oa ca n : Nat) (zr za zs : List Int) (hn : RowOk n n) (hzr : zr.length = n) (hza : za.length = n) (hr : Lie W br or zr) (ha : Lie W ba oa za) (h8r : ∀ z ∈ zr, 0 ≤ z ∧ z ≤ 255) (h8a : ∀ z ∈ za, 0 ≤ z ∧ z ≤ 255) (hf : IsFilt 1 zr za zs) :
    Calls Tryz.prog 9 #[.int .i64 1, .slice (some ⟨br, or, none⟩) n cr, .slice (some ⟨ba, oa, none⟩) n ca] W fun e w' => ∃ g, e = .returned (.tuple #[.slice (some ⟨g, 0, none⟩) n n, .bool true]) ∧ Nw W w' ∧ W.heap.size ≤ g ∧ At w' g zs := by
  have HK : Hid (Calls Tryz.prog 30 #[.int .i64 1] W fun e w' => e = .returned (.bool true) ∧ w' = W) := igoodKind W 1
  have HG : Hid _ := igoodRows_yes W (some ⟨br, or, none⟩) (some ⟨ba, oa, none⟩) n cr ca hn
  have HO : Hid (Calls Tryz.prog 32 #[.int .i64 1] W fun e w' => e = .returned (.agg #[.func (.func 55) #[] #[]]) ∧ Nw W w') := ifilterOf W 1 (by omega)
  have hn1 : n ≤ 144 := hn.2.2.1
  have hmk := run_make_row' (P := Tryz.prog) 22 5 (.int .u8 0) 1 Tryz.underlying22 Tryz.info5 rfl .i64 .i64 n (by omega) (by omega)
  have hzs : zs.length = n := by rw [hf.1, hzr]
  have hbr := hr.1
  have hba := ha.1
  have HRow : Hid _ := hr
  have HAbo : Hid _ := ha
  have H8r : Hid _ := h8r
  have H8a : Hid _ := h8a
  have HF : Hid _ := hf
  clear hr ha h8r h8a hf hn
  go_enter Tryz.func9, Tryz.ntmps9
  go_wp2_with fail
  refine Calls.mono HK.out ?_
  rintro e w1 ⟨rfl, rfl⟩
  go_wp2_with fail
  refine Calls.mono HG.out ?_
  rintro e w1 ⟨rfl, rfl⟩
  go_wp2_with fail
  refine Calls.mono HO.out ?_
  rintro e w2 ⟨rfl, hnw⟩
  have hsz : w1.heap.size ≤ w2.heap.size := Below.size hnw
  have hb3 : Below w1.heap.size w1 (w2.alloc (.cells #[.func (.func 55) #[] #[]] 57)) := Below.alloc hnw hsz _
  have H3 : Hid (Lay (w2.alloc (.cells #[.func (.func 55) #[] #[]] 57)) ((w2.alloc (.cells #[.func (.func 55) #[] #[]] 57)).alloc (.cells (madeCells #[Value.int .u8 0] n) 5)) (w2.heap.size + 1) zs 0) := Lay.start _ _ _ n zs 5 hzs (by simp) (Below.refl _ _)
  have HR3 : Hid (Lie (w2.alloc (.cells #[.func (.func 55) #[] #[]] 57)) br or zr) := Lie.below HRow.out hb3 hbr
  have HA3 : Hid (Lie (w2.alloc (.cells #[.func (.func 55) #[] #[]] 57)) ba oa za) := Lie.below HAbo.out hb3 hba
  have HF3 : Hid ((w2.alloc (.cells #[.func (.func 55) #[] #[]] 57)).cell? ⟨w2.heap.size, 0, none⟩ = some (.func (.func 55) #[] #[])) := by show _ = _; simp
  have HN3 : Hid (Nw w1 (w2.alloc (.cells #[.func (.func 55) #[] #[]] 57))) := hb3
  clear hnw HK HG HO hb3 HRow HAbo
  go_wp2
  go_loopw [27] (fun i wr => ∃ k : Nat, k ≤ n ∧ i = .int .i64 k ∧ Lay (w2.alloc (.cells #[.func (.func 55) #[] #[]] 57)) wr (w2.heap.size + 1) zs k) (fun i _ => n - (intOf i).toNat)
  case atStart => exact ⟨0, Nat.zero_le _, rfl, H3.out⟩
  case round =>
    obtain ⟨k, hk, rfl, hl⟩ := hrel
    clear hmk H3
    by_cases hlt : k < n
    · have HL : Hid _ := hl
      have hrow : Lie wr br or zr := Lie.below HR3.out hl.1 (by omega)
      have habo : Lie wr ba oa za := Lie.below HA3.out hl.1 (by omega)
      have e0 : wr.cell? ⟨w2.heap.size, 0, none⟩ = some (.func (.func 55) #[] #[]) := (hl.1.cell (p := ⟨w2.heap.size, 0, none⟩) (by show w2.heap.size < _; omega)).trans HF3.out
      have e1 := hrow.2 k (by omega)
      have e2 := habo.2 k (by omega)
      have e3 := hl.2.2.2.1 k (Nat.le_refl _) (by omega)
      have e4 := hl.2.2.2.2 k
      rw [Nat.zero_add] at e3
      have b1 := u8_get zr H8r.out k (by omega)
      have b2 := u8_get za H8a.out k (by omega)
      have b3 := left_bd zr H8r.out k (by omega)
      have b4 := left_bd za H8a.out k (by omega)
      have b5 := guess_bd 1 (left zr k) (za.getD k 0) (left za k) b3 b2 b4
      have HZ : Hid (zs.getD k 0 = (zr.getD k 0 - guess 1 (left zr k) (za.getD k 0) (left za k)) % 256) := HF.out.2 k (by omega)
      have HC1 : Hid (Calls Tryz.prog 33 #[.slice (some ⟨br, or, none⟩) n cr, .int .i64 (k : Int)] wr.drew fun e w' => e = .returned (.int .u8 (left zr k)) ∧ w' = wr.drew) := ileft _ br or n cr k _ (by omega) hlt (hrow.left k (by omega))
      have HC2 : Hid (Calls Tryz.prog 33 #[.slice (some ⟨ba, oa, none⟩) n ca, .int .i64 (k : Int)] wr.drew fun e w' => e = .returned (.int .u8 (left za k)) ∧ w' = wr.drew) := ileft _ ba oa n ca k _ (by omega) hlt (habo.left k (by omega))
      have HC3 : Hid (Calls Tryz.prog 55 #[.int .u8 (left zr k), .int .u8 (za.getD k 0), .int .u8 (left za k)] wr.drew fun e w' => e = .returned (.int .u8 (guess 1 (left zr k) (za.getD k 0) (left za k))) ∧ w' = wr.drew) := ig1 _ _ _ _
      have HST : Hid (Lay (w2.alloc (.cells #[.func (.func 55) #[] #[]] 57)) (wr.drew.setCell ⟨w2.heap.size + 1, k, none⟩ (.int .u8 ((zr.getD k 0 - guess 1 (left zr k) (za.getD k 0) (left za k)) % 256))) (w2.heap.size + 1) zs (k + 1)) := by rw [← HZ.out]; exact Lay.step HL.out (by omega)
      clear hl hrow habo
      generalize guess 1 (left zr k) (za.getD k 0) (left za k) = g at *
      generalize left zr k = lr at *
      generalize left za k = la at *
      generalize zr.getD k 0 = x at *
      generalize za.getD k 0 = y at *
      have hB : w2.heap.size + 1 < wr.heap.size := HL.out.2.1
      clear HZ
      have g0 : w2.heap.size < w2.heap.size + 1 := by omega
      have g1 : br < w2.heap.size + 1 := by omega
      have g2 : ba < w2.heap.size + 1 := by omega
      generalize w2.heap.size + 1 = B at *
      have f0 : ∀ v, (wr.setCell ⟨B, k, none⟩ v).drew.cell? ⟨w2.heap.size, 0, none⟩ = some (.func (.func 55) #[] #[]) := fun v => (World.cell?_setCell_other wr _ _ _ (fun h => by injection h; omega)).trans e0
      have f1 : ∀ v, (wr.setCell ⟨B, k, none⟩ v).drew.cell? ⟨br, or + k, none⟩ = some (.int .u8 x) := fun v => (World.cell?_setCell_other wr _ _ _ (fun h => by injection h; omega)).trans e1
      have f2 : ∀ v, (wr.setCell ⟨B, k, none⟩ v).drew.cell? ⟨ba, oa + k, none⟩ = some (.int .u8 y) := fun v => (World.cell?_setCell_other wr _ _ _ (fun h => by injection h; omega)).trans e2
      have k0 : (0 : Int) ≤ (k : Int) := by omega
      have k1 : (k : Int) < (n : Int) := by omega
      have hw4 : IntKind.u8.wrap (x - g) = (x - g) % 256 := IntKind.wrap_u8 _
      go_wp2
      go_region_held3 (fun w' => w'.cell? ⟨br, or + k, none⟩ = some (.int .u8 x) ∧ w'.cell? ⟨ba, oa + k, none⟩ = some (.int .u8 y) ∧ w'.cell? ⟨w2.heap.size, 0, none⟩ = some (.func (.func 55) #[] #[])) (first | exact ⟨e1, e2, e0⟩ | exact ⟨f1 _, f2 _, f0 _⟩)
        (first
          | (go_at_call_of 33 (Value.slice (some ⟨br, or, none⟩) n cr); refine Calls.mono HC1.out ?_; rintro e w5 ⟨rfl, rfl⟩)
          | (go_at_call_of 33 (Value.slice (some ⟨ba, oa, none⟩) n ca); refine Calls.mono HC2.out ?_; rintro e w5 ⟨rfl, rfl⟩)
          | (go_at_call 55; refine Calls.mono HC3.out ?_; rintro e w5 ⟨rfl, rfl⟩))
      go_wp2
      go_roundw
      case rel => exact ⟨k + 1, by omega, by go_num, HST.out⟩
      case measure => simp [intOf]; omega
    · have e : k = n := by omega
      subst e
      rw [← hzs] at hl
      have HA : Hid (Nw w1 wr ∧ w1.heap.size ≤ w2.heap.size + 1 ∧ At wr (w2.heap.size + 1) zs) := ⟨Below.trans HN3.out (Below.mono hl.1 (by omega)), by omega, Lay.done hl⟩
      clear hl
      go_wp2
      go_ret2
      exact ⟨_, rfl, HA.out⟩

set_option maxHeartbeats 2000000 in
theorem iunf1 (W : World) (br or cr ba oa ca n : Nat) (zr za zs : List Int) (hn : RowOk n n) (hzr : zr.length = n) (hza : za.length = n) (hr : Lie W br or zr) (ha : Lie W ba oa za) (h8r : ∀ z ∈ zr, 0 ≤ z ∧ z ≤ 255) (h8a : ∀ z ∈ za, 0 ≤ z ∧ z ≤ 255) (hf : IsUnf 1 zr za zs) :
    Calls Tryz.prog 11 #[.int .i64 1, .slice (some ⟨br, or, none⟩) n cr, .slice (some ⟨ba, oa, none⟩) n ca] W fun e w' => ∃ g, e = .returned (.tuple #[.slice (some ⟨g, 0, none⟩) n n, .bool true]) ∧ Nw W w' ∧ W.heap.size ≤ g ∧ At w' g zs := by
  have HK : Hid (Calls Tryz.prog 30 #[.int .i64 1] W fun e w' => e = .returned (.bool true) ∧ w' = W) := igoodKind W 1
  have HG : Hid _ := igoodRows_yes W (some ⟨br, or, none⟩) (some ⟨ba, oa, none⟩) n cr ca hn
  have HO : Hid (Calls Tryz.prog 32 #[.int .i64 1] W fun e w' => e = .returned (.agg #[.func (.func 55) #[] #[]]) ∧ Nw W w') := ifilterOf W 1 (by omega)
  have hn1 : n ≤ 144 := hn.2.2.1
  have hmk := run_make_row' (P := Tryz.prog) 22 5 (.int .u8 0) 1 Tryz.underlying22 Tryz.info5 rfl .i64 .i64 n (by omega) (by omega)
  have hzs : zs.length = n := by rw [hf.1, hzr]
  have hbr := hr.1
  have hba := ha.1
  have HRow : Hid _ := hr
  have HAbo : Hid _ := ha
  have H8r : Hid _ := h8r
  have H8a : Hid _ := h8a
  have HF : Hid _ := hf
  clear hr ha h8r h8a hf hn
  go_enter Tryz.func11, Tryz.ntmps11
  go_wp2_with fail
  refine Calls.mono HK.out ?_
  rintro e w1 ⟨rfl, rfl⟩
  go_wp2_with fail
  refine Calls.mono HG.out ?_
  rintro e w1 ⟨rfl, rfl⟩
  go_wp2_with fail
  refine Calls.mono HO.out ?_
  rintro e w2 ⟨rfl, hnw⟩
  have hsz : w1.heap.size ≤ w2.heap.size := Below.size hnw
  have hb3 : Below w1.heap.size w1 (w2.alloc (.cells #[.func (.func 55) #[] #[]] 57)) := Below.alloc hnw hsz _
  have H3 : Hid (Lay (w2.alloc (.cells #[.func (.func 55) #[] #[]] 57)) ((w2.alloc (.cells #[.func (.func 55) #[] #[]] 57)).alloc (.cells (madeCells #[Value.int .u8 0] n) 5)) (w2.heap.size + 1) zs 0) := Lay.start _ _ _ n zs 5 hzs (by simp) (Below.refl _ _)
  have HR3 : Hid (Lie (w2.alloc (.cells #[.func (.func 55) #[] #[]] 57)) br or zr) := Lie.below HRow.out hb3 hbr
  have HA3 : Hid (Lie (w2.alloc (.cells #[.func (.func 55) #[] #[]] 57)) ba oa za) := Lie.below HAbo.out hb3 hba
  have HF3 : Hid ((w2.alloc (.cells #[.func (.func 55) #[] #[]] 57)).cell? ⟨w2.heap.size, 0, none⟩ = some (.func (.func 55) #[] #[])) := by show _ = _; simp
  have HN3 : Hid (Nw w1 (w2.alloc (.cells #[.func (.func 55) #[] #[]] 57))) := hb3
  clear hnw HK HG HO hb3 HRow HAbo
  go_wp2
  go_loopw [27] (fun i wr => ∃ k : Nat, k ≤ n ∧ i = .int .i64 k ∧ Lay (w2.alloc (.cells #[.func (.func 55) #[] #[]] 57)) wr (w2.heap.size + 1) zs k) (fun i _ => n - (intOf i).toNat)
  case atStart => exact ⟨0, Nat.zero_le _, rfl, H3.out⟩
  case round =>
    obtain ⟨k, hk, rfl, hl⟩ := hrel
    clear hmk H3
    by_cases hlt : k < n
    · have HL : Hid _ := hl
      have hrow : Lie wr br or zr := Lie.below HR3.out hl.1 (by omega)
      have habo : Lie wr ba oa za := Lie.below HA3.out hl.1 (by omega)
      have e0 : wr.cell? ⟨w2.heap.size, 0, none⟩ = some (.func (.func 55) #[] #[]) := (hl.1.cell (p := ⟨w2.heap.size, 0, none⟩) (by show w2.heap.size < _; omega)).trans HF3.out
      have e1 := hrow.2 k (by omega)
      have e2 := habo.2 k (by omega)
      have e3 := hl.2.2.2.1 k (Nat.le_refl _) (by omega)
      have e4 := hl.2.2.2.2 k
      rw [Nat.zero_add] at e3
      have b1 := u8_get zr H8r.out k (by omega)
      have b2 := u8_get za H8a.out k (by omega)
      have b3 := IsUnf.bd HF.out k (by omega)
      have b4 := left_bd za H8a.out k (by omega)
      have b5 := guess_bd 1 (left zs k) (za.getD k 0) (left za k) b3 b2 b4
      have HZ : Hid (zs.getD k 0 = (zr.getD k 0 + guess 1 (left zs k) (za.getD k 0) (left za k)) % 256) := HF.out.2 k (by omega)
      have HC1 : Hid (Calls Tryz.prog 33 #[.slice (some ⟨w2.heap.size + 1, 0, none⟩) n n, .int .i64 (k : Int)] wr.drew fun e w' => e = .returned (.int .u8 (left zs k)) ∧ w' = wr.drew) := ileft _ _ 0 n n k _ (by omega) hlt (Lay.left HL.out k (by omega) (Nat.le_refl _))
      have HC2 : Hid (Calls Tryz.prog 33 #[.slice (some ⟨ba, oa, none⟩) n ca, .int .i64 (k : Int)] wr.drew fun e w' => e = .returned (.int .u8 (left za k)) ∧ w' = wr.drew) := ileft _ ba oa n ca k _ (by omega) hlt (habo.left k (by omega))
      have HC3 : Hid (Calls Tryz.prog 55 #[.int .u8 (left zs k), .int .u8 (za.getD k 0), .int .u8 (left za k)] wr.drew fun e w' => e = .returned (.int .u8 (guess 1 (left zs k) (za.getD k 0) (left za k))) ∧ w' = wr.drew) := ig1 _ _ _ _
      have HST : Hid (Lay (w2.alloc (.cells #[.func (.func 55) #[] #[]] 57)) (wr.drew.setCell ⟨w2.heap.size + 1, k, none⟩ (.int .u8 ((zr.getD k 0 + guess 1 (left zs k) (za.getD k 0) (left za k)) % 256))) (w2.heap.size + 1) zs (k + 1)) := by rw [← HZ.out]; exact Lay.step HL.out (by omega)
      clear hl hrow habo
      generalize guess 1 (left zs k) (za.getD k 0) (left za k) = g at *
      generalize left zs k = lr at *
      generalize left za k = la at *
      generalize zr.getD k 0 = x at *
      generalize za.getD k 0 = y at *
      have hB : w2.heap.size + 1 < wr.heap.size := HL.out.2.1
      clear HZ
      have g0 : w2.heap.size < w2.heap.size + 1 := by omega
      have g1 : br < w2.heap.size + 1 := by omega
      have g2 : ba < w2.heap.size + 1 := by omega
      generalize w2.heap.size + 1 = B at *
      have f0 : ∀ v, (wr.setCell ⟨B, k, none⟩ v).drew.cell? ⟨w2.heap.size, 0, none⟩ = some (.func (.func 55) #[] #[]) := fun v => (World.cell?_setCell_other wr _ _ _ (fun h => by injection h; omega)).trans e0
      have f1 : ∀ v, (wr.setCell ⟨B, k, none⟩ v).drew.cell? ⟨br, or + k, none⟩ = some (.int .u8 x) := fun v => (World.cell?_setCell_other wr _ _ _ (fun h => by injection h; omega)).trans e1
      have f2 : ∀ v, (wr.setCell ⟨B, k, none⟩ v).drew.cell? ⟨ba, oa + k, none⟩ = some (.int .u8 y) := fun v => (World.cell?_setCell_other wr _ _ _ (fun h => by injection h; omega)).trans e2
      have k0 : (0 : Int) ≤ (k : Int) := by omega
      have k1 : (k : Int) < (n : Int) := by omega
      have hw4 : IntKind.u8.wrap (x + g) = (x + g) % 256 := IntKind.wrap_u8 _
      go_wp2
      go_region_held3 (fun w' => w'.cell? ⟨br, or + k, none⟩ = some (.int .u8 x) ∧ w'.cell? ⟨ba, oa + k, none⟩ = some (.int .u8 y) ∧ w'.cell? ⟨w2.heap.size, 0, none⟩ = some (.func (.func 55) #[] #[])) (first | exact ⟨e1, e2, e0⟩ | exact ⟨f1 _, f2 _, f0 _⟩)
        (first
          | (go_at_call_of 33 (Value.slice (some ⟨B, 0, none⟩) n n); refine Calls.mono HC1.out ?_; rintro e w5 ⟨rfl, rfl⟩)
          | (go_at_call_of 33 (Value.slice (some ⟨ba, oa, none⟩) n ca); refine Calls.mono HC2.out ?_; rintro e w5 ⟨rfl, rfl⟩)
          | (go_at_call 55; refine Calls.mono HC3.out ?_; rintro e w5 ⟨rfl, rfl⟩))
      go_wp2
      go_roundw
      case rel => exact ⟨k + 1, by omega, by go_num, HST.out⟩
      case measure => simp [intOf]; omega
    · have e : k = n := by omega
      subst e
      rw [← hzs] at hl
      have HA : Hid (Nw w1 wr ∧ w1.heap.size ≤ w2.heap.size + 1 ∧ At wr (w2.heap.size + 1) zs) := ⟨Below.trans HN3.out (Below.mono hl.1 (by omega)), by omega, Lay.done hl⟩
      clear hl
      go_wp2
      go_ret2
      exact ⟨_, rfl, HA.out⟩
end Go.Proofs.YtaeicgfebeliiaaGreatDoor
namespace Go.Proofs.YtaeicgfebeliiaaGreatDoor
open Go.ChangeShapes Go.WideShapes Go.ChangeAt Go.RowKit
set_option linter.unusedVariables false
attribute [local go_sem] run_store_func

set_option maxHeartbeats 2000000 in
theorem ifilt2 (W : World) (br or cr ba oa ca n : Nat) (zr za zs : List Int) (hn : RowOk n n) (hzr : zr.length = n) (hza : za.length = n) (hr : Lie W br or zr) (ha : Lie W ba oa za) (h8r : ∀ z ∈ zr, 0 ≤ z ∧ z ≤ 255) (h8a : ∀ z ∈ za, 0 ≤ z ∧ z ≤ 255) (hf : IsFilt 2 zr za zs) :
    Calls Tryz.prog 9 #[.int .i64 2, .slice (some ⟨br, or, none⟩) n cr, .slice (some ⟨ba, oa, none⟩) n ca] W fun e w' => ∃ g, e = .returned (.tuple #[.slice (some ⟨g, 0, none⟩) n n, .bool true]) ∧ Nw W w' ∧ W.heap.size ≤ g ∧ At w' g zs := by
  have HK : Hid (Calls Tryz.prog 30 #[.int .i64 2] W fun e w' => e = .returned (.bool true) ∧ w' = W) := igoodKind W 2
  have HG : Hid _ := igoodRows_yes W (some ⟨br, or, none⟩) (some ⟨ba, oa, none⟩) n cr ca hn
  have HO : Hid (Calls Tryz.prog 32 #[.int .i64 2] W fun e w' => e = .returned (.agg #[.func (.func 56) #[] #[]]) ∧ Nw W w') := ifilterOf W 2 (by omega)
  have hn1 : n ≤ 144 := hn.2.2.1
  have hmk := run_make_row' (P := Tryz.prog) 22 5 (.int .u8 0) 1 Tryz.underlying22 Tryz.info5 rfl .i64 .i64 n (by omega) (by omega)
  have hzs : zs.length = n := by rw [hf.1, hzr]
  have hbr := hr.1
  have hba := ha.1
  have HRow : Hid _ := hr
  have HAbo : Hid _ := ha
  have H8r : Hid _ := h8r
  have H8a : Hid _ := h8a
  have HF : Hid _ := hf
  clear hr ha h8r h8a hf hn
  go_enter Tryz.func9, Tryz.ntmps9
  go_wp2_with fail
  refine Calls.mono HK.out ?_
  rintro e w1 ⟨rfl, rfl⟩
  go_wp2_with fail
  refine Calls.mono HG.out ?_
  rintro e w1 ⟨rfl, rfl⟩
  go_wp2_with fail
  refine Calls.mono HO.out ?_
  rintro e w2 ⟨rfl, hnw⟩
  have hsz : w1.heap.size ≤ w2.heap.size := Below.size hnw
  have hb3 : Below w1.heap.size w1 (w2.alloc (.cells #[.func (.func 56) #[] #[]] 57)) := Below.alloc hnw hsz _
  have H3 : Hid (Lay (w2.alloc (.cells #[.func (.func 56) #[] #[]] 57)) ((w2.alloc (.cells #[.func (.func 56) #[] #[]] 57)).alloc (.cells (madeCells #[Value.int .u8 0] n) 5)) (w2.heap.size + 1) zs 0) := Lay.start _ _ _ n zs 5 hzs (by simp) (Below.refl _ _)
  have HR3 : Hid (Lie (w2.alloc (.cells #[.func (.func 56) #[] #[]] 57)) br or zr) := Lie.below HRow.out hb3 hbr
  have HA3 : Hid (Lie (w2.alloc (.cells #[.func (.func 56) #[] #[]] 57)) ba oa za) := Lie.below HAbo.out hb3 hba
  have HF3 : Hid ((w2.alloc (.cells #[.func (.func 56) #[] #[]] 57)).cell? ⟨w2.heap.size, 0, none⟩ = some (.func (.func 56) #[] #[])) := by show _ = _; simp
  have HN3 : Hid (Nw w1 (w2.alloc (.cells #[.func (.func 56) #[] #[]] 57))) := hb3
  clear hnw HK HG HO hb3 HRow HAbo
  go_wp2
  go_loopw [27] (fun i wr => ∃ k : Nat, k ≤ n ∧ i = .int .i64 k ∧ Lay (w2.alloc (.cells #[.func (.func 56) #[] #[]] 57)) wr (w2.heap.size + 1) zs k) (fun i _ => n - (intOf i).toNat)
  case atStart => exact ⟨0, Nat.zero_le _, rfl, H3.out⟩
  case round =>
    obtain ⟨k, hk, rfl, hl⟩ := hrel
    clear hmk H3
    by_cases hlt : k < n
    · have HL : Hid _ := hl
      have hrow : Lie wr br or zr := Lie.below HR3.out hl.1 (by omega)
      have habo : Lie wr ba oa za := Lie.below HA3.out hl.1 (by omega)
      have e0 : wr.cell? ⟨w2.heap.size, 0, none⟩ = some (.func (.func 56) #[] #[]) := (hl.1.cell (p := ⟨w2.heap.size, 0, none⟩) (by show w2.heap.size < _; omega)).trans HF3.out
      have e1 := hrow.2 k (by omega)
      have e2 := habo.2 k (by omega)
      have e3 := hl.2.2.2.1 k (Nat.le_refl _) (by omega)
      have e4 := hl.2.2.2.2 k
      rw [Nat.zero_add] at e3
      have b1 := u8_get zr H8r.out k (by omega)
      have b2 := u8_get za H8a.out k (by omega)
      have b3 := left_bd zr H8r.out k (by omega)
      have b4 := left_bd za H8a.out k (by omega)
      have b5 := guess_bd 2 (left zr k) (za.getD k 0) (left za k) b3 b2 b4
      have HZ : Hid (zs.getD k 0 = (zr.getD k 0 - guess 2 (left zr k) (za.getD k 0) (left za k)) % 256) := HF.out.2 k (by omega)
      have HC1 : Hid (Calls Tryz.prog 33 #[.slice (some ⟨br, or, none⟩) n cr, .int .i64 (k : Int)] wr.drew fun e w' => e = .returned (.int .u8 (left zr k)) ∧ w' = wr.drew) := ileft _ br or n cr k _ (by omega) hlt (hrow.left k (by omega))
      have HC2 : Hid (Calls Tryz.prog 33 #[.slice (some ⟨ba, oa, none⟩) n ca, .int .i64 (k : Int)] wr.drew fun e w' => e = .returned (.int .u8 (left za k)) ∧ w' = wr.drew) := ileft _ ba oa n ca k _ (by omega) hlt (habo.left k (by omega))
      have HC3 : Hid (Calls Tryz.prog 56 #[.int .u8 (left zr k), .int .u8 (za.getD k 0), .int .u8 (left za k)] wr.drew fun e w' => e = .returned (.int .u8 (guess 2 (left zr k) (za.getD k 0) (left za k))) ∧ w' = wr.drew) := ig2 _ _ _ _
      have HST : Hid (Lay (w2.alloc (.cells #[.func (.func 56) #[] #[]] 57)) (wr.drew.setCell ⟨w2.heap.size + 1, k, none⟩ (.int .u8 ((zr.getD k 0 - guess 2 (left zr k) (za.getD k 0) (left za k)) % 256))) (w2.heap.size + 1) zs (k + 1)) := by rw [← HZ.out]; exact Lay.step HL.out (by omega)
      clear hl hrow habo
      generalize guess 2 (left zr k) (za.getD k 0) (left za k) = g at *
      generalize left zr k = lr at *
      generalize left za k = la at *
      generalize zr.getD k 0 = x at *
      generalize za.getD k 0 = y at *
      have hB : w2.heap.size + 1 < wr.heap.size := HL.out.2.1
      clear HZ
      have g0 : w2.heap.size < w2.heap.size + 1 := by omega
      have g1 : br < w2.heap.size + 1 := by omega
      have g2 : ba < w2.heap.size + 1 := by omega
      generalize w2.heap.size + 1 = B at *
      have f0 : ∀ v, (wr.setCell ⟨B, k, none⟩ v).drew.cell? ⟨w2.heap.size, 0, none⟩ = some (.func (.func 56) #[] #[]) := fun v => (World.cell?_setCell_other wr _ _ _ (fun h => by injection h; omega)).trans e0
      have f1 : ∀ v, (wr.setCell ⟨B, k, none⟩ v).drew.cell? ⟨br, or + k, none⟩ = some (.int .u8 x) := fun v => (World.cell?_setCell_other wr _ _ _ (fun h => by injection h; omega)).trans e1
      have f2 : ∀ v, (wr.setCell ⟨B, k, none⟩ v).drew.cell? ⟨ba, oa + k, none⟩ = some (.int .u8 y) := fun v => (World.cell?_setCell_other wr _ _ _ (fun h => by injection h; omega)).trans e2
      have k0 : (0 : Int) ≤ (k : Int) := by omega
      have k1 : (k : Int) < (n : Int) := by omega
      have hw4 : IntKind.u8.wrap (x - g) = (x - g) % 256 := IntKind.wrap_u8 _
      go_wp2
      go_region_held3 (fun w' => w'.cell? ⟨br, or + k, none⟩ = some (.int .u8 x) ∧ w'.cell? ⟨ba, oa + k, none⟩ = some (.int .u8 y) ∧ w'.cell? ⟨w2.heap.size, 0, none⟩ = some (.func (.func 56) #[] #[])) (first | exact ⟨e1, e2, e0⟩ | exact ⟨f1 _, f2 _, f0 _⟩)
        (first
          | (go_at_call_of 33 (Value.slice (some ⟨br, or, none⟩) n cr); refine Calls.mono HC1.out ?_; rintro e w5 ⟨rfl, rfl⟩)
          | (go_at_call_of 33 (Value.slice (some ⟨ba, oa, none⟩) n ca); refine Calls.mono HC2.out ?_; rintro e w5 ⟨rfl, rfl⟩)
          | (go_at_call 56; refine Calls.mono HC3.out ?_; rintro e w5 ⟨rfl, rfl⟩))
      go_wp2
      go_roundw
      case rel => exact ⟨k + 1, by omega, by go_num, HST.out⟩
      case measure => simp [intOf]; omega
    · have e : k = n := by omega
      subst e
      rw [← hzs] at hl
      have HA : Hid (Nw w1 wr ∧ w1.heap.size ≤ w2.heap.size + 1 ∧ At wr (w2.heap.size + 1) zs) := ⟨Below.trans HN3.out (Below.mono hl.1 (by omega)), by omega, Lay.done hl⟩
      clear hl
      go_wp2
      go_ret2
      exact ⟨_, rfl, HA.out⟩

set_option maxHeartbeats 2000000 in
theorem iunf2 (W : World) (br or cr ba oa ca n : Nat) (zr za zs : List Int) (hn : RowOk n n) (hzr : zr.length = n) (hza : za.length = n) (hr : Lie W br or zr) (ha : Lie W ba oa za) (h8r : ∀ z ∈ zr, 0 ≤ z ∧ z ≤ 255) (h8a : ∀ z ∈ za, 0 ≤ z ∧ z ≤ 255) (hf : IsUnf 2 zr za zs) :
    Calls Tryz.prog 11 #[.int .i64 2, .slice (some ⟨br, or, none⟩) n cr, .slice (some ⟨ba, oa, none⟩) n ca] W fun e w' => ∃ g, e = .returned (.tuple #[.slice (some ⟨g, 0, none⟩) n n, .bool true]) ∧ Nw W w' ∧ W.heap.size ≤ g ∧ At w' g zs := by
  have HK : Hid (Calls Tryz.prog 30 #[.int .i64 2] W fun e w' => e = .returned (.bool true) ∧ w' = W) := igoodKind W 2
  have HG : Hid _ := igoodRows_yes W (some ⟨br, or, none⟩) (some ⟨ba, oa, none⟩) n cr ca hn
  have HO : Hid (Calls Tryz.prog 32 #[.int .i64 2] W fun e w' => e = .returned (.agg #[.func (.func 56) #[] #[]]) ∧ Nw W w') := ifilterOf W 2 (by omega)
  have hn1 : n ≤ 144 := hn.2.2.1
  have hmk := run_make_row' (P := Tryz.prog) 22 5 (.int .u8 0) 1 Tryz.underlying22 Tryz.info5 rfl .i64 .i64 n (by omega) (by omega)
  have hzs : zs.length = n := by rw [hf.1, hzr]
  have hbr := hr.1
  have hba := ha.1
  have HRow : Hid _ := hr
  have HAbo : Hid _ := ha
  have H8r : Hid _ := h8r
  have H8a : Hid _ := h8a
  have HF : Hid _ := hf
  clear hr ha h8r h8a hf hn
  go_enter Tryz.func11, Tryz.ntmps11
  go_wp2_with fail
  refine Calls.mono HK.out ?_
  rintro e w1 ⟨rfl, rfl⟩
  go_wp2_with fail
  refine Calls.mono HG.out ?_
  rintro e w1 ⟨rfl, rfl⟩
  go_wp2_with fail
  refine Calls.mono HO.out ?_
  rintro e w2 ⟨rfl, hnw⟩
  have hsz : w1.heap.size ≤ w2.heap.size := Below.size hnw
  have hb3 : Below w1.heap.size w1 (w2.alloc (.cells #[.func (.func 56) #[] #[]] 57)) := Below.alloc hnw hsz _
  have H3 : Hid (Lay (w2.alloc (.cells #[.func (.func 56) #[] #[]] 57)) ((w2.alloc (.cells #[.func (.func 56) #[] #[]] 57)).alloc (.cells (madeCells #[Value.int .u8 0] n) 5)) (w2.heap.size + 1) zs 0) := Lay.start _ _ _ n zs 5 hzs (by simp) (Below.refl _ _)
  have HR3 : Hid (Lie (w2.alloc (.cells #[.func (.func 56) #[] #[]] 57)) br or zr) := Lie.below HRow.out hb3 hbr
  have HA3 : Hid (Lie (w2.alloc (.cells #[.func (.func 56) #[] #[]] 57)) ba oa za) := Lie.below HAbo.out hb3 hba
  have HF3 : Hid ((w2.alloc (.cells #[.func (.func 56) #[] #[]] 57)).cell? ⟨w2.heap.size, 0, none⟩ = some (.func (.func 56) #[] #[])) := by show _ = _; simp
  have HN3 : Hid (Nw w1 (w2.alloc (.cells #[.func (.func 56) #[] #[]] 57))) := hb3
  clear hnw HK HG HO hb3 HRow HAbo
  go_wp2
  go_loopw [27] (fun i wr => ∃ k : Nat, k ≤ n ∧ i = .int .i64 k ∧ Lay (w2.alloc (.cells #[.func (.func 56) #[] #[]] 57)) wr (w2.heap.size + 1) zs k) (fun i _ => n - (intOf i).toNat)
  case atStart => exact ⟨0, Nat.zero_le _, rfl, H3.out⟩
  case round =>
    obtain ⟨k, hk, rfl, hl⟩ := hrel
    clear hmk H3
    by_cases hlt : k < n
    · have HL : Hid _ := hl
      have hrow : Lie wr br or zr := Lie.below HR3.out hl.1 (by omega)
      have habo : Lie wr ba oa za := Lie.below HA3.out hl.1 (by omega)
      have e0 : wr.cell? ⟨w2.heap.size, 0, none⟩ = some (.func (.func 56) #[] #[]) := (hl.1.cell (p := ⟨w2.heap.size, 0, none⟩) (by show w2.heap.size < _; omega)).trans HF3.out
      have e1 := hrow.2 k (by omega)
      have e2 := habo.2 k (by omega)
      have e3 := hl.2.2.2.1 k (Nat.le_refl _) (by omega)
      have e4 := hl.2.2.2.2 k
      rw [Nat.zero_add] at e3
      have b1 := u8_get zr H8r.out k (by omega)
      have b2 := u8_get za H8a.out k (by omega)
      have b3 := IsUnf.bd HF.out k (by omega)
      have b4 := left_bd za H8a.out k (by omega)
      have b5 := guess_bd 2 (left zs k) (za.getD k 0) (left za k) b3 b2 b4
      have HZ : Hid (zs.getD k 0 = (zr.getD k 0 + guess 2 (left zs k) (za.getD k 0) (left za k)) % 256) := HF.out.2 k (by omega)
      have HC1 : Hid (Calls Tryz.prog 33 #[.slice (some ⟨w2.heap.size + 1, 0, none⟩) n n, .int .i64 (k : Int)] wr.drew fun e w' => e = .returned (.int .u8 (left zs k)) ∧ w' = wr.drew) := ileft _ _ 0 n n k _ (by omega) hlt (Lay.left HL.out k (by omega) (Nat.le_refl _))
      have HC2 : Hid (Calls Tryz.prog 33 #[.slice (some ⟨ba, oa, none⟩) n ca, .int .i64 (k : Int)] wr.drew fun e w' => e = .returned (.int .u8 (left za k)) ∧ w' = wr.drew) := ileft _ ba oa n ca k _ (by omega) hlt (habo.left k (by omega))
      have HC3 : Hid (Calls Tryz.prog 56 #[.int .u8 (left zs k), .int .u8 (za.getD k 0), .int .u8 (left za k)] wr.drew fun e w' => e = .returned (.int .u8 (guess 2 (left zs k) (za.getD k 0) (left za k))) ∧ w' = wr.drew) := ig2 _ _ _ _
      have HST : Hid (Lay (w2.alloc (.cells #[.func (.func 56) #[] #[]] 57)) (wr.drew.setCell ⟨w2.heap.size + 1, k, none⟩ (.int .u8 ((zr.getD k 0 + guess 2 (left zs k) (za.getD k 0) (left za k)) % 256))) (w2.heap.size + 1) zs (k + 1)) := by rw [← HZ.out]; exact Lay.step HL.out (by omega)
      clear hl hrow habo
      generalize guess 2 (left zs k) (za.getD k 0) (left za k) = g at *
      generalize left zs k = lr at *
      generalize left za k = la at *
      generalize zr.getD k 0 = x at *
      generalize za.getD k 0 = y at *
      have hB : w2.heap.size + 1 < wr.heap.size := HL.out.2.1
      clear HZ
      have g0 : w2.heap.size < w2.heap.size + 1 := by omega
      have g1 : br < w2.heap.size + 1 := by omega
      have g2 : ba < w2.heap.size + 1 := by omega
      generalize w2.heap.size + 1 = B at *
      have f0 : ∀ v, (wr.setCell ⟨B, k, none⟩ v).drew.cell? ⟨w2.heap.size, 0, none⟩ = some (.func (.func 56) #[] #[]) := fun v => (World.cell?_setCell_other wr _ _ _ (fun h => by injection h; omega)).trans e0
      have f1 : ∀ v, (wr.setCell ⟨B, k, none⟩ v).drew.cell? ⟨br, or + k, none⟩ = some (.int .u8 x) := fun v => (World.cell?_setCell_other wr _ _ _ (fun h => by injection h; omega)).trans e1
      have f2 : ∀ v, (wr.setCell ⟨B, k, none⟩ v).drew.cell? ⟨ba, oa + k, none⟩ = some (.int .u8 y) := fun v => (World.cell?_setCell_other wr _ _ _ (fun h => by injection h; omega)).trans e2
      have k0 : (0 : Int) ≤ (k : Int) := by omega
      have k1 : (k : Int) < (n : Int) := by omega
      have hw4 : IntKind.u8.wrap (x + g) = (x + g) % 256 := IntKind.wrap_u8 _
      go_wp2
      go_region_held3 (fun w' => w'.cell? ⟨br, or + k, none⟩ = some (.int .u8 x) ∧ w'.cell? ⟨ba, oa + k, none⟩ = some (.int .u8 y) ∧ w'.cell? ⟨w2.heap.size, 0, none⟩ = some (.func (.func 56) #[] #[])) (first | exact ⟨e1, e2, e0⟩ | exact ⟨f1 _, f2 _, f0 _⟩)
        (first
          | (go_at_call_of 33 (Value.slice (some ⟨B, 0, none⟩) n n); refine Calls.mono HC1.out ?_; rintro e w5 ⟨rfl, rfl⟩)
          | (go_at_call_of 33 (Value.slice (some ⟨ba, oa, none⟩) n ca); refine Calls.mono HC2.out ?_; rintro e w5 ⟨rfl, rfl⟩)
          | (go_at_call 56; refine Calls.mono HC3.out ?_; rintro e w5 ⟨rfl, rfl⟩))
      go_wp2
      go_roundw
      case rel => exact ⟨k + 1, by omega, by go_num, HST.out⟩
      case measure => simp [intOf]; omega
    · have e : k = n := by omega
      subst e
      rw [← hzs] at hl
      have HA : Hid (Nw w1 wr ∧ w1.heap.size ≤ w2.heap.size + 1 ∧ At wr (w2.heap.size + 1) zs) := ⟨Below.trans HN3.out (Below.mono hl.1 (by omega)), by omega, Lay.done hl⟩
      clear hl
      go_wp2
      go_ret2
      exact ⟨_, rfl, HA.out⟩
end Go.Proofs.YtaeicgfebeliiaaGreatDoor
namespace Go.Proofs.YtaeicgfebeliiaaGreatDoor
open Go.ChangeShapes Go.WideShapes Go.ChangeAt Go.RowKit
set_option linter.unusedVariables false
attribute [local go_sem] run_store_func

set_option maxHeartbeats 2000000 in
theorem ifilt3 (W : World) (br or cr ba oa ca n : Nat) (zr za zs : List Int) (hn : RowOk n n) (hzr : zr.length = n) (hza : za.length = n) (hr : Lie W br or zr) (ha : Lie W ba oa za) (h8r : ∀ z ∈ zr, 0 ≤ z ∧ z ≤ 255) (h8a : ∀ z ∈ za, 0 ≤ z ∧ z ≤ 255) (hf : IsFilt 3 zr za zs) :
    Calls Tryz.prog 9 #[.int .i64 3, .slice (some ⟨br, or, none⟩) n cr, .slice (some ⟨ba, oa, none⟩) n ca] W fun e w' => ∃ g, e = .returned (.tuple #[.slice (some ⟨g, 0, none⟩) n n, .bool true]) ∧ Nw W w' ∧ W.heap.size ≤ g ∧ At w' g zs := by
  have HK : Hid (Calls Tryz.prog 30 #[.int .i64 3] W fun e w' => e = .returned (.bool true) ∧ w' = W) := igoodKind W 3
  have HG : Hid _ := igoodRows_yes W (some ⟨br, or, none⟩) (some ⟨ba, oa, none⟩) n cr ca hn
  have HO : Hid (Calls Tryz.prog 32 #[.int .i64 3] W fun e w' => e = .returned (.agg #[.func (.func 57) #[] #[]]) ∧ Nw W w') := ifilterOf W 3 (by omega)
  have hn1 : n ≤ 144 := hn.2.2.1
  have hmk := run_make_row' (P := Tryz.prog) 22 5 (.int .u8 0) 1 Tryz.underlying22 Tryz.info5 rfl .i64 .i64 n (by omega) (by omega)
  have hzs : zs.length = n := by rw [hf.1, hzr]
  have hbr := hr.1
  have hba := ha.1
  have HRow : Hid _ := hr
  have HAbo : Hid _ := ha
  have H8r : Hid _ := h8r
  have H8a : Hid _ := h8a
  have HF : Hid _ := hf
  clear hr ha h8r h8a hf hn
  go_enter Tryz.func9, Tryz.ntmps9
  go_wp2_with fail
  refine Calls.mono HK.out ?_
  rintro e w1 ⟨rfl, rfl⟩
  go_wp2_with fail
  refine Calls.mono HG.out ?_
  rintro e w1 ⟨rfl, rfl⟩
  go_wp2_with fail
  refine Calls.mono HO.out ?_
  rintro e w2 ⟨rfl, hnw⟩
  have hsz : w1.heap.size ≤ w2.heap.size := Below.size hnw
  have hb3 : Below w1.heap.size w1 (w2.alloc (.cells #[.func (.func 57) #[] #[]] 57)) := Below.alloc hnw hsz _
  have H3 : Hid (Lay (w2.alloc (.cells #[.func (.func 57) #[] #[]] 57)) ((w2.alloc (.cells #[.func (.func 57) #[] #[]] 57)).alloc (.cells (madeCells #[Value.int .u8 0] n) 5)) (w2.heap.size + 1) zs 0) := Lay.start _ _ _ n zs 5 hzs (by simp) (Below.refl _ _)
  have HR3 : Hid (Lie (w2.alloc (.cells #[.func (.func 57) #[] #[]] 57)) br or zr) := Lie.below HRow.out hb3 hbr
  have HA3 : Hid (Lie (w2.alloc (.cells #[.func (.func 57) #[] #[]] 57)) ba oa za) := Lie.below HAbo.out hb3 hba
  have HF3 : Hid ((w2.alloc (.cells #[.func (.func 57) #[] #[]] 57)).cell? ⟨w2.heap.size, 0, none⟩ = some (.func (.func 57) #[] #[])) := by show _ = _; simp
  have HN3 : Hid (Nw w1 (w2.alloc (.cells #[.func (.func 57) #[] #[]] 57))) := hb3
  clear hnw HK HG HO hb3 HRow HAbo
  go_wp2
  go_loopw [27] (fun i wr => ∃ k : Nat, k ≤ n ∧ i = .int .i64 k ∧ Lay (w2.alloc (.cells #[.func (.func 57) #[] #[]] 57)) wr (w2.heap.size + 1) zs k) (fun i _ => n - (intOf i).toNat)
  case atStart => exact ⟨0, Nat.zero_le _, rfl, H3.out⟩
  case round =>
    obtain ⟨k, hk, rfl, hl⟩ := hrel
    clear hmk H3
    by_cases hlt : k < n
    · have HL : Hid _ := hl
      have hrow : Lie wr br or zr := Lie.below HR3.out hl.1 (by omega)
      have habo : Lie wr ba oa za := Lie.below HA3.out hl.1 (by omega)
      have e0 : wr.cell? ⟨w2.heap.size, 0, none⟩ = some (.func (.func 57) #[] #[]) := (hl.1.cell (p := ⟨w2.heap.size, 0, none⟩) (by show w2.heap.size < _; omega)).trans HF3.out
      have e1 := hrow.2 k (by omega)
      have e2 := habo.2 k (by omega)
      have e3 := hl.2.2.2.1 k (Nat.le_refl _) (by omega)
      have e4 := hl.2.2.2.2 k
      rw [Nat.zero_add] at e3
      have b1 := u8_get zr H8r.out k (by omega)
      have b2 := u8_get za H8a.out k (by omega)
      have b3 := left_bd zr H8r.out k (by omega)
      have b4 := left_bd za H8a.out k (by omega)
      have b5 := guess_bd 3 (left zr k) (za.getD k 0) (left za k) b3 b2 b4
      have HZ : Hid (zs.getD k 0 = (zr.getD k 0 - guess 3 (left zr k) (za.getD k 0) (left za k)) % 256) := HF.out.2 k (by omega)
      have HC1 : Hid (Calls Tryz.prog 33 #[.slice (some ⟨br, or, none⟩) n cr, .int .i64 (k : Int)] wr.drew fun e w' => e = .returned (.int .u8 (left zr k)) ∧ w' = wr.drew) := ileft _ br or n cr k _ (by omega) hlt (hrow.left k (by omega))
      have HC2 : Hid (Calls Tryz.prog 33 #[.slice (some ⟨ba, oa, none⟩) n ca, .int .i64 (k : Int)] wr.drew fun e w' => e = .returned (.int .u8 (left za k)) ∧ w' = wr.drew) := ileft _ ba oa n ca k _ (by omega) hlt (habo.left k (by omega))
      have HC3 : Hid (Calls Tryz.prog 57 #[.int .u8 (left zr k), .int .u8 (za.getD k 0), .int .u8 (left za k)] wr.drew fun e w' => e = .returned (.int .u8 (guess 3 (left zr k) (za.getD k 0) (left za k))) ∧ w' = wr.drew) := ig3 _ _ _ _ b3 b2
      have HST : Hid (Lay (w2.alloc (.cells #[.func (.func 57) #[] #[]] 57)) (wr.drew.setCell ⟨w2.heap.size + 1, k, none⟩ (.int .u8 ((zr.getD k 0 - guess 3 (left zr k) (za.getD k 0) (left za k)) % 256))) (w2.heap.size + 1) zs (k + 1)) := by rw [← HZ.out]; exact Lay.step HL.out (by omega)
      clear hl hrow habo
      generalize guess 3 (left zr k) (za.getD k 0) (left za k) = g at *
      generalize left zr k = lr at *
      generalize left za k = la at *
      generalize zr.getD k 0 = x at *
      generalize za.getD k 0 = y at *
      have hB : w2.heap.size + 1 < wr.heap.size := HL.out.2.1
      clear HZ
      have g0 : w2.heap.size < w2.heap.size + 1 := by omega
      have g1 : br < w2.heap.size + 1 := by omega
      have g2 : ba < w2.heap.size + 1 := by omega
      generalize w2.heap.size + 1 = B at *
      have f0 : ∀ v, (wr.setCell ⟨B, k, none⟩ v).drew.cell? ⟨w2.heap.size, 0, none⟩ = some (.func (.func 57) #[] #[]) := fun v => (World.cell?_setCell_other wr _ _ _ (fun h => by injection h; omega)).trans e0
      have f1 : ∀ v, (wr.setCell ⟨B, k, none⟩ v).drew.cell? ⟨br, or + k, none⟩ = some (.int .u8 x) := fun v => (World.cell?_setCell_other wr _ _ _ (fun h => by injection h; omega)).trans e1
      have f2 : ∀ v, (wr.setCell ⟨B, k, none⟩ v).drew.cell? ⟨ba, oa + k, none⟩ = some (.int .u8 y) := fun v => (World.cell?_setCell_other wr _ _ _ (fun h => by injection h; omega)).trans e2
      have k0 : (0 : Int) ≤ (k : Int) := by omega
      have k1 : (k : Int) < (n : Int) := by omega
      have hw4 : IntKind.u8.wrap (x - g) = (x - g) % 256 := IntKind.wrap_u8 _
      go_wp2
      go_region_held3 (fun w' => w'.cell? ⟨br, or + k, none⟩ = some (.int .u8 x) ∧ w'.cell? ⟨ba, oa + k, none⟩ = some (.int .u8 y) ∧ w'.cell? ⟨w2.heap.size, 0, none⟩ = some (.func (.func 57) #[] #[])) (first | exact ⟨e1, e2, e0⟩ | exact ⟨f1 _, f2 _, f0 _⟩)
        (first
          | (go_at_call_of 33 (Value.slice (some ⟨br, or, none⟩) n cr); refine Calls.mono HC1.out ?_; rintro e w5 ⟨rfl, rfl⟩)
          | (go_at_call_of 33 (Value.slice (some ⟨ba, oa, none⟩) n ca); refine Calls.mono HC2.out ?_; rintro e w5 ⟨rfl, rfl⟩)
          | (go_at_call 57; refine Calls.mono HC3.out ?_; rintro e w5 ⟨rfl, rfl⟩))
      go_wp2
      go_roundw
      case rel => exact ⟨k + 1, by omega, by go_num, HST.out⟩
      case measure => simp [intOf]; omega
    · have e : k = n := by omega
      subst e
      rw [← hzs] at hl
      have HA : Hid (Nw w1 wr ∧ w1.heap.size ≤ w2.heap.size + 1 ∧ At wr (w2.heap.size + 1) zs) := ⟨Below.trans HN3.out (Below.mono hl.1 (by omega)), by omega, Lay.done hl⟩
      clear hl
      go_wp2
      go_ret2
      exact ⟨_, rfl, HA.out⟩

set_option maxHeartbeats 2000000 in
theorem iunf3 (W : World) (br or cr ba oa ca n : Nat) (zr za zs : List Int) (hn : RowOk n n) (hzr : zr.length = n) (hza : za.length = n) (hr : Lie W br or zr) (ha : Lie W ba oa za) (h8r : ∀ z ∈ zr, 0 ≤ z ∧ z ≤ 255) (h8a : ∀ z ∈ za, 0 ≤ z ∧ z ≤ 255) (hf : IsUnf 3 zr za zs) :
    Calls Tryz.prog 11 #[.int .i64 3, .slice (some ⟨br, or, none⟩) n cr, .slice (some ⟨ba, oa, none⟩) n ca] W fun e w' => ∃ g, e = .returned (.tuple #[.slice (some ⟨g, 0, none⟩) n n, .bool true]) ∧ Nw W w' ∧ W.heap.size ≤ g ∧ At w' g zs := by
  have HK : Hid (Calls Tryz.prog 30 #[.int .i64 3] W fun e w' => e = .returned (.bool true) ∧ w' = W) := igoodKind W 3
  have HG : Hid _ := igoodRows_yes W (some ⟨br, or, none⟩) (some ⟨ba, oa, none⟩) n cr ca hn
  have HO : Hid (Calls Tryz.prog 32 #[.int .i64 3] W fun e w' => e = .returned (.agg #[.func (.func 57) #[] #[]]) ∧ Nw W w') := ifilterOf W 3 (by omega)
  have hn1 : n ≤ 144 := hn.2.2.1
  have hmk := run_make_row' (P := Tryz.prog) 22 5 (.int .u8 0) 1 Tryz.underlying22 Tryz.info5 rfl .i64 .i64 n (by omega) (by omega)
  have hzs : zs.length = n := by rw [hf.1, hzr]
  have hbr := hr.1
  have hba := ha.1
  have HRow : Hid _ := hr
  have HAbo : Hid _ := ha
  have H8r : Hid _ := h8r
  have H8a : Hid _ := h8a
  have HF : Hid _ := hf
  clear hr ha h8r h8a hf hn
  go_enter Tryz.func11, Tryz.ntmps11
  go_wp2_with fail
  refine Calls.mono HK.out ?_
  rintro e w1 ⟨rfl, rfl⟩
  go_wp2_with fail
  refine Calls.mono HG.out ?_
  rintro e w1 ⟨rfl, rfl⟩
  go_wp2_with fail
  refine Calls.mono HO.out ?_
  rintro e w2 ⟨rfl, hnw⟩
  have hsz : w1.heap.size ≤ w2.heap.size := Below.size hnw
  have hb3 : Below w1.heap.size w1 (w2.alloc (.cells #[.func (.func 57) #[] #[]] 57)) := Below.alloc hnw hsz _
  have H3 : Hid (Lay (w2.alloc (.cells #[.func (.func 57) #[] #[]] 57)) ((w2.alloc (.cells #[.func (.func 57) #[] #[]] 57)).alloc (.cells (madeCells #[Value.int .u8 0] n) 5)) (w2.heap.size + 1) zs 0) := Lay.start _ _ _ n zs 5 hzs (by simp) (Below.refl _ _)
  have HR3 : Hid (Lie (w2.alloc (.cells #[.func (.func 57) #[] #[]] 57)) br or zr) := Lie.below HRow.out hb3 hbr
  have HA3 : Hid (Lie (w2.alloc (.cells #[.func (.func 57) #[] #[]] 57)) ba oa za) := Lie.below HAbo.out hb3 hba
  have HF3 : Hid ((w2.alloc (.cells #[.func (.func 57) #[] #[]] 57)).cell? ⟨w2.heap.size, 0, none⟩ = some (.func (.func 57) #[] #[])) := by show _ = _; simp
  have HN3 : Hid (Nw w1 (w2.alloc (.cells #[.func (.func 57) #[] #[]] 57))) := hb3
  clear hnw HK HG HO hb3 HRow HAbo
  go_wp2
  go_loopw [27] (fun i wr => ∃ k : Nat, k ≤ n ∧ i = .int .i64 k ∧ Lay (w2.alloc (.cells #[.func (.func 57) #[] #[]] 57)) wr (w2.heap.size + 1) zs k) (fun i _ => n - (intOf i).toNat)
  case atStart => exact ⟨0, Nat.zero_le _, rfl, H3.out⟩
  case round =>
    obtain ⟨k, hk, rfl, hl⟩ := hrel
    clear hmk H3
    by_cases hlt : k < n
    · have HL : Hid _ := hl
      have hrow : Lie wr br or zr := Lie.below HR3.out hl.1 (by omega)
      have habo : Lie wr ba oa za := Lie.below HA3.out hl.1 (by omega)
      have e0 : wr.cell? ⟨w2.heap.size, 0, none⟩ = some (.func (.func 57) #[] #[]) := (hl.1.cell (p := ⟨w2.heap.size, 0, none⟩) (by show w2.heap.size < _; omega)).trans HF3.out
      have e1 := hrow.2 k (by omega)
      have e2 := habo.2 k (by omega)
      have e3 := hl.2.2.2.1 k (Nat.le_refl _) (by omega)
      have e4 := hl.2.2.2.2 k
      rw [Nat.zero_add] at e3
      have b1 := u8_get zr H8r.out k (by omega)
      have b2 := u8_get za H8a.out k (by omega)
      have b3 := IsUnf.bd HF.out k (by omega)
      have b4 := left_bd za H8a.out k (by omega)
      have b5 := guess_bd 3 (left zs k) (za.getD k 0) (left za k) b3 b2 b4
      have HZ : Hid (zs.getD k 0 = (zr.getD k 0 + guess 3 (left zs k) (za.getD k 0) (left za k)) % 256) := HF.out.2 k (by omega)
      have HC1 : Hid (Calls Tryz.prog 33 #[.slice (some ⟨w2.heap.size + 1, 0, none⟩) n n, .int .i64 (k : Int)] wr.drew fun e w' => e = .returned (.int .u8 (left zs k)) ∧ w' = wr.drew) := ileft _ _ 0 n n k _ (by omega) hlt (Lay.left HL.out k (by omega) (Nat.le_refl _))
      have HC2 : Hid (Calls Tryz.prog 33 #[.slice (some ⟨ba, oa, none⟩) n ca, .int .i64 (k : Int)] wr.drew fun e w' => e = .returned (.int .u8 (left za k)) ∧ w' = wr.drew) := ileft _ ba oa n ca k _ (by omega) hlt (habo.left k (by omega))
      have HC3 : Hid (Calls Tryz.prog 57 #[.int .u8 (left zs k), .int .u8 (za.getD k 0), .int .u8 (left za k)] wr.drew fun e w' => e = .returned (.int .u8 (guess 3 (left zs k) (za.getD k 0) (left za k))) ∧ w' = wr.drew) := ig3 _ _ _ _ b3 b2
      have HST : Hid (Lay (w2.alloc (.cells #[.func (.func 57) #[] #[]] 57)) (wr.drew.setCell ⟨w2.heap.size + 1, k, none⟩ (.int .u8 ((zr.getD k 0 + guess 3 (left zs k) (za.getD k 0) (left za k)) % 256))) (w2.heap.size + 1) zs (k + 1)) := by rw [← HZ.out]; exact Lay.step HL.out (by omega)
      clear hl hrow habo
      generalize guess 3 (left zs k) (za.getD k 0) (left za k) = g at *
      generalize left zs k = lr at *
      generalize left za k = la at *
      generalize zr.getD k 0 = x at *
      generalize za.getD k 0 = y at *
      have hB : w2.heap.size + 1 < wr.heap.size := HL.out.2.1
      clear HZ
      have g0 : w2.heap.size < w2.heap.size + 1 := by omega
      have g1 : br < w2.heap.size + 1 := by omega
      have g2 : ba < w2.heap.size + 1 := by omega
      generalize w2.heap.size + 1 = B at *
      have f0 : ∀ v, (wr.setCell ⟨B, k, none⟩ v).drew.cell? ⟨w2.heap.size, 0, none⟩ = some (.func (.func 57) #[] #[]) := fun v => (World.cell?_setCell_other wr _ _ _ (fun h => by injection h; omega)).trans e0
      have f1 : ∀ v, (wr.setCell ⟨B, k, none⟩ v).drew.cell? ⟨br, or + k, none⟩ = some (.int .u8 x) := fun v => (World.cell?_setCell_other wr _ _ _ (fun h => by injection h; omega)).trans e1
      have f2 : ∀ v, (wr.setCell ⟨B, k, none⟩ v).drew.cell? ⟨ba, oa + k, none⟩ = some (.int .u8 y) := fun v => (World.cell?_setCell_other wr _ _ _ (fun h => by injection h; omega)).trans e2
      have k0 : (0 : Int) ≤ (k : Int) := by omega
      have k1 : (k : Int) < (n : Int) := by omega
      have hw4 : IntKind.u8.wrap (x + g) = (x + g) % 256 := IntKind.wrap_u8 _
      go_wp2
      go_region_held3 (fun w' => w'.cell? ⟨br, or + k, none⟩ = some (.int .u8 x) ∧ w'.cell? ⟨ba, oa + k, none⟩ = some (.int .u8 y) ∧ w'.cell? ⟨w2.heap.size, 0, none⟩ = some (.func (.func 57) #[] #[])) (first | exact ⟨e1, e2, e0⟩ | exact ⟨f1 _, f2 _, f0 _⟩)
        (first
          | (go_at_call_of 33 (Value.slice (some ⟨B, 0, none⟩) n n); refine Calls.mono HC1.out ?_; rintro e w5 ⟨rfl, rfl⟩)
          | (go_at_call_of 33 (Value.slice (some ⟨ba, oa, none⟩) n ca); refine Calls.mono HC2.out ?_; rintro e w5 ⟨rfl, rfl⟩)
          | (go_at_call 57; refine Calls.mono HC3.out ?_; rintro e w5 ⟨rfl, rfl⟩))
      go_wp2
      go_roundw
      case rel => exact ⟨k + 1, by omega, by go_num, HST.out⟩
      case measure => simp [intOf]; omega
    · have e : k = n := by omega
      subst e
      rw [← hzs] at hl
      have HA : Hid (Nw w1 wr ∧ w1.heap.size ≤ w2.heap.size + 1 ∧ At wr (w2.heap.size + 1) zs) := ⟨Below.trans HN3.out (Below.mono hl.1 (by omega)), by omega, Lay.done hl⟩
      clear hl
      go_wp2
      go_ret2
      exact ⟨_, rfl, HA.out⟩
end Go.Proofs.YtaeicgfebeliiaaGreatDoor
namespace Go.Proofs.YtaeicgfebeliiaaGreatDoor
open Go.ChangeShapes Go.WideShapes Go.ChangeAt Go.RowKit
set_option linter.unusedVariables false
attribute [local go_sem] run_store_func

set_option maxHeartbeats 2000000 in
theorem ifilt4 (W : World) (br or cr ba oa ca n : Nat) (zr za zs : List Int) (hn : RowOk n n) (hzr : zr.length = n) (hza : za.length = n) (hr : Lie W br or zr) (ha : Lie W ba oa za) (h8r : ∀ z ∈ zr, 0 ≤ z ∧ z ≤ 255) (h8a : ∀ z ∈ za, 0 ≤ z ∧ z ≤ 255) (hf : IsFilt 4 zr za zs) :
    Calls Tryz.prog 9 #[.int .i64 4, .slice (some ⟨br, or, none⟩) n cr, .slice (some ⟨ba, oa, none⟩) n ca] W fun e w' => ∃ g, e = .returned (.tuple #[.slice (some ⟨g, 0, none⟩) n n, .bool true]) ∧ Nw W w' ∧ W.heap.size ≤ g ∧ At w' g zs := by
  have HK : Hid (Calls Tryz.prog 30 #[.int .i64 4] W fun e w' => e = .returned (.bool true) ∧ w' = W) := igoodKind W 4
  have HG : Hid _ := igoodRows_yes W (some ⟨br, or, none⟩) (some ⟨ba, oa, none⟩) n cr ca hn
  have HO : Hid (Calls Tryz.prog 32 #[.int .i64 4] W fun e w' => e = .returned (.agg #[.func (.func 58) #[] #[]]) ∧ Nw W w') := ifilterOf W 4 (by omega)
  have hn1 : n ≤ 144 := hn.2.2.1
  have hmk := run_make_row' (P := Tryz.prog) 22 5 (.int .u8 0) 1 Tryz.underlying22 Tryz.info5 rfl .i64 .i64 n (by omega) (by omega)
  have hzs : zs.length = n := by rw [hf.1, hzr]
  have hbr := hr.1
  have hba := ha.1
  have HRow : Hid _ := hr
  have HAbo : Hid _ := ha
  have H8r : Hid _ := h8r
  have H8a : Hid _ := h8a
  have HF : Hid _ := hf
  clear hr ha h8r h8a hf hn
  go_enter Tryz.func9, Tryz.ntmps9
  go_wp2_with fail
  refine Calls.mono HK.out ?_
  rintro e w1 ⟨rfl, rfl⟩
  go_wp2_with fail
  refine Calls.mono HG.out ?_
  rintro e w1 ⟨rfl, rfl⟩
  go_wp2_with fail
  refine Calls.mono HO.out ?_
  rintro e w2 ⟨rfl, hnw⟩
  have hsz : w1.heap.size ≤ w2.heap.size := Below.size hnw
  have hb3 : Below w1.heap.size w1 (w2.alloc (.cells #[.func (.func 58) #[] #[]] 57)) := Below.alloc hnw hsz _
  have H3 : Hid (Lay (w2.alloc (.cells #[.func (.func 58) #[] #[]] 57)) ((w2.alloc (.cells #[.func (.func 58) #[] #[]] 57)).alloc (.cells (madeCells #[Value.int .u8 0] n) 5)) (w2.heap.size + 1) zs 0) := Lay.start _ _ _ n zs 5 hzs (by simp) (Below.refl _ _)
  have HR3 : Hid (Lie (w2.alloc (.cells #[.func (.func 58) #[] #[]] 57)) br or zr) := Lie.below HRow.out hb3 hbr
  have HA3 : Hid (Lie (w2.alloc (.cells #[.func (.func 58) #[] #[]] 57)) ba oa za) := Lie.below HAbo.out hb3 hba
  have HF3 : Hid ((w2.alloc (.cells #[.func (.func 58) #[] #[]] 57)).cell? ⟨w2.heap.size, 0, none⟩ = some (.func (.func 58) #[] #[])) := by show _ = _; simp
  have HN3 : Hid (Nw w1 (w2.alloc (.cells #[.func (.func 58) #[] #[]] 57))) := hb3
  clear hnw HK HG HO hb3 HRow HAbo
  go_wp2
  go_loopw [27] (fun i wr => ∃ k : Nat, k ≤ n ∧ i = .int .i64 k ∧ Lay (w2.alloc (.cells #[.func (.func 58) #[] #[]] 57)) wr (w2.heap.size + 1) zs k) (fun i _ => n - (intOf i).toNat)
  case atStart => exact ⟨0, Nat.zero_le _, rfl, H3.out⟩
  case round =>
    obtain ⟨k, hk, rfl, hl⟩ := hrel
    clear hmk H3
    by_cases hlt : k < n
    · have HL : Hid _ := hl
      have hrow : Lie wr br or zr := Lie.below HR3.out hl.1 (by omega)
      have habo : Lie wr ba oa za := Lie.below HA3.out hl.1 (by omega)
      have e0 : wr.cell? ⟨w2.heap.size, 0, none⟩ = some (.func (.func 58) #[] #[]) := (hl.1.cell (p := ⟨w2.heap.size, 0, none⟩) (by show w2.heap.size < _; omega)).trans HF3.out
      have e1 := hrow.2 k (by omega)
      have e2 := habo.2 k (by omega)
      have e3 := hl.2.2.2.1 k (Nat.le_refl _) (by omega)
      have e4 := hl.2.2.2.2 k
      rw [Nat.zero_add] at e3
      have b1 := u8_get zr H8r.out k (by omega)
      have b2 := u8_get za H8a.out k (by omega)
      have b3 := left_bd zr H8r.out k (by omega)
      have b4 := left_bd za H8a.out k (by omega)
      have b5 := guess_bd 4 (left zr k) (za.getD k 0) (left za k) b3 b2 b4
      have HZ : Hid (zs.getD k 0 = (zr.getD k 0 - guess 4 (left zr k) (za.getD k 0) (left za k)) % 256) := HF.out.2 k (by omega)
      have HC1 : Hid (Calls Tryz.prog 33 #[.slice (some ⟨br, or, none⟩) n cr, .int .i64 (k : Int)] wr.drew fun e w' => e = .returned (.int .u8 (left zr k)) ∧ w' = wr.drew) := ileft _ br or n cr k _ (by omega) hlt (hrow.left k (by omega))
      have HC2 : Hid (Calls Tryz.prog 33 #[.slice (some ⟨ba, oa, none⟩) n ca, .int .i64 (k : Int)] wr.drew fun e w' => e = .returned (.int .u8 (left za k)) ∧ w' = wr.drew) := ileft _ ba oa n ca k _ (by omega) hlt (habo.left k (by omega))
      have HC3 : Hid (Calls Tryz.prog 58 #[.int .u8 (left zr k), .int .u8 (za.getD k 0), .int .u8 (left za k)] wr.drew fun e w' => e = .returned (.int .u8 (guess 4 (left zr k) (za.getD k 0) (left za k))) ∧ w' = wr.drew) := ig4 _ _ _ _ b3 b2 b4
      have HST : Hid (Lay (w2.alloc (.cells #[.func (.func 58) #[] #[]] 57)) (wr.drew.setCell ⟨w2.heap.size + 1, k, none⟩ (.int .u8 ((zr.getD k 0 - guess 4 (left zr k) (za.getD k 0) (left za k)) % 256))) (w2.heap.size + 1) zs (k + 1)) := by rw [← HZ.out]; exact Lay.step HL.out (by omega)
      clear hl hrow habo
      generalize guess 4 (left zr k) (za.getD k 0) (left za k) = g at *
      generalize left zr k = lr at *
      generalize left za k = la at *
      generalize zr.getD k 0 = x at *
      generalize za.getD k 0 = y at *
      have hB : w2.heap.size + 1 < wr.heap.size := HL.out.2.1
      clear HZ
      have g0 : w2.heap.size < w2.heap.size + 1 := by omega
      have g1 : br < w2.heap.size + 1 := by omega
      have g2 : ba < w2.heap.size + 1 := by omega
      generalize w2.heap.size + 1 = B at *
      have f0 : ∀ v, (wr.setCell ⟨B, k, none⟩ v).drew.cell? ⟨w2.heap.size, 0, none⟩ = some (.func (.func 58) #[] #[]) := fun v => (World.cell?_setCell_other wr _ _ _ (fun h => by injection h; omega)).trans e0
      have f1 : ∀ v, (wr.setCell ⟨B, k, none⟩ v).drew.cell? ⟨br, or + k, none⟩ = some (.int .u8 x) := fun v => (World.cell?_setCell_other wr _ _ _ (fun h => by injection h; omega)).trans e1
      have f2 : ∀ v, (wr.setCell ⟨B, k, none⟩ v).drew.cell? ⟨ba, oa + k, none⟩ = some (.int .u8 y) := fun v => (World.cell?_setCell_other wr _ _ _ (fun h => by injection h; omega)).trans e2
      have k0 : (0 : Int) ≤ (k : Int) := by omega
      have k1 : (k : Int) < (n : Int) := by omega
      have hw4 : IntKind.u8.wrap (x - g) = (x - g) % 256 := IntKind.wrap_u8 _
      go_wp2
      go_region_held3 (fun w' => w'.cell? ⟨br, or + k, none⟩ = some (.int .u8 x) ∧ w'.cell? ⟨ba, oa + k, none⟩ = some (.int .u8 y) ∧ w'.cell? ⟨w2.heap.size, 0, none⟩ = some (.func (.func 58) #[] #[])) (first | exact ⟨e1, e2, e0⟩ | exact ⟨f1 _, f2 _, f0 _⟩)
        (first
          | (go_at_call_of 33 (Value.slice (some ⟨br, or, none⟩) n cr); refine Calls.mono HC1.out ?_; rintro e w5 ⟨rfl, rfl⟩)
          | (go_at_call_of 33 (Value.slice (some ⟨ba, oa, none⟩) n ca); refine Calls.mono HC2.out ?_; rintro e w5 ⟨rfl, rfl⟩)
          | (go_at_call 58; refine Calls.mono HC3.out ?_; rintro e w5 ⟨rfl, rfl⟩))
      go_wp2
      go_roundw
      case rel => exact ⟨k + 1, by omega, by go_num, HST.out⟩
      case measure => simp [intOf]; omega
    · have e : k = n := by omega
      subst e
      rw [← hzs] at hl
      have HA : Hid (Nw w1 wr ∧ w1.heap.size ≤ w2.heap.size + 1 ∧ At wr (w2.heap.size + 1) zs) := ⟨Below.trans HN3.out (Below.mono hl.1 (by omega)), by omega, Lay.done hl⟩
      clear hl
      go_wp2
      go_ret2
      exact ⟨_, rfl, HA.out⟩

set_option maxHeartbeats 2000000 in
theorem iunf4 (W : World) (br or cr ba oa ca n : Nat) (zr za zs : List Int) (hn : RowOk n n) (hzr : zr.length = n) (hza : za.length = n) (hr : Lie W br or zr) (ha : Lie W ba oa za) (h8r : ∀ z ∈ zr, 0 ≤ z ∧ z ≤ 255) (h8a : ∀ z ∈ za, 0 ≤ z ∧ z ≤ 255) (hf : IsUnf 4 zr za zs) :
    Calls Tryz.prog 11 #[.int .i64 4, .slice (some ⟨br, or, none⟩) n cr, .slice (some ⟨ba, oa, none⟩) n ca] W fun e w' => ∃ g, e = .returned (.tuple #[.slice (some ⟨g, 0, none⟩) n n, .bool true]) ∧ Nw W w' ∧ W.heap.size ≤ g ∧ At w' g zs := by
  have HK : Hid (Calls Tryz.prog 30 #[.int .i64 4] W fun e w' => e = .returned (.bool true) ∧ w' = W) := igoodKind W 4
  have HG : Hid _ := igoodRows_yes W (some ⟨br, or, none⟩) (some ⟨ba, oa, none⟩) n cr ca hn
  have HO : Hid (Calls Tryz.prog 32 #[.int .i64 4] W fun e w' => e = .returned (.agg #[.func (.func 58) #[] #[]]) ∧ Nw W w') := ifilterOf W 4 (by omega)
  have hn1 : n ≤ 144 := hn.2.2.1
  have hmk := run_make_row' (P := Tryz.prog) 22 5 (.int .u8 0) 1 Tryz.underlying22 Tryz.info5 rfl .i64 .i64 n (by omega) (by omega)
  have hzs : zs.length = n := by rw [hf.1, hzr]
  have hbr := hr.1
  have hba := ha.1
  have HRow : Hid _ := hr
  have HAbo : Hid _ := ha
  have H8r : Hid _ := h8r
  have H8a : Hid _ := h8a
  have HF : Hid _ := hf
  clear hr ha h8r h8a hf hn
  go_enter Tryz.func11, Tryz.ntmps11
  go_wp2_with fail
  refine Calls.mono HK.out ?_
  rintro e w1 ⟨rfl, rfl⟩
  go_wp2_with fail
  refine Calls.mono HG.out ?_
  rintro e w1 ⟨rfl, rfl⟩
  go_wp2_with fail
  refine Calls.mono HO.out ?_
  rintro e w2 ⟨rfl, hnw⟩
  have hsz : w1.heap.size ≤ w2.heap.size := Below.size hnw
  have hb3 : Below w1.heap.size w1 (w2.alloc (.cells #[.func (.func 58) #[] #[]] 57)) := Below.alloc hnw hsz _
  have H3 : Hid (Lay (w2.alloc (.cells #[.func (.func 58) #[] #[]] 57)) ((w2.alloc (.cells #[.func (.func 58) #[] #[]] 57)).alloc (.cells (madeCells #[Value.int .u8 0] n) 5)) (w2.heap.size + 1) zs 0) := Lay.start _ _ _ n zs 5 hzs (by simp) (Below.refl _ _)
  have HR3 : Hid (Lie (w2.alloc (.cells #[.func (.func 58) #[] #[]] 57)) br or zr) := Lie.below HRow.out hb3 hbr
  have HA3 : Hid (Lie (w2.alloc (.cells #[.func (.func 58) #[] #[]] 57)) ba oa za) := Lie.below HAbo.out hb3 hba
  have HF3 : Hid ((w2.alloc (.cells #[.func (.func 58) #[] #[]] 57)).cell? ⟨w2.heap.size, 0, none⟩ = some (.func (.func 58) #[] #[])) := by show _ = _; simp
  have HN3 : Hid (Nw w1 (w2.alloc (.cells #[.func (.func 58) #[] #[]] 57))) := hb3
  clear hnw HK HG HO hb3 HRow HAbo
  go_wp2
  go_loopw [27] (fun i wr => ∃ k : Nat, k ≤ n ∧ i = .int .i64 k ∧ Lay (w2.alloc (.cells #[.func (.func 58) #[] #[]] 57)) wr (w2.heap.size + 1) zs k) (fun i _ => n - (intOf i).toNat)
  case atStart => exact ⟨0, Nat.zero_le _, rfl, H3.out⟩
  case round =>
    obtain ⟨k, hk, rfl, hl⟩ := hrel
    clear hmk H3
    by_cases hlt : k < n
    · have HL : Hid _ := hl
      have hrow : Lie wr br or zr := Lie.below HR3.out hl.1 (by omega)
      have habo : Lie wr ba oa za := Lie.below HA3.out hl.1 (by omega)
      have e0 : wr.cell? ⟨w2.heap.size, 0, none⟩ = some (.func (.func 58) #[] #[]) := (hl.1.cell (p := ⟨w2.heap.size, 0, none⟩) (by show w2.heap.size < _; omega)).trans HF3.out
      have e1 := hrow.2 k (by omega)
      have e2 := habo.2 k (by omega)
      have e3 := hl.2.2.2.1 k (Nat.le_refl _) (by omega)
      have e4 := hl.2.2.2.2 k
      rw [Nat.zero_add] at e3
      have b1 := u8_get zr H8r.out k (by omega)
      have b2 := u8_get za H8a.out k (by omega)
      have b3 := IsUnf.bd HF.out k (by omega)
      have b4 := left_bd za H8a.out k (by omega)
      have b5 := guess_bd 4 (left zs k) (za.getD k 0) (left za k) b3 b2 b4
      have HZ : Hid (zs.getD k 0 = (zr.getD k 0 + guess 4 (left zs k) (za.getD k 0) (left za k)) % 256) := HF.out.2 k (by omega)
      have HC1 : Hid (Calls Tryz.prog 33 #[.slice (some ⟨w2.heap.size + 1, 0, none⟩) n n, .int .i64 (k : Int)] wr.drew fun e w' => e = .returned (.int .u8 (left zs k)) ∧ w' = wr.drew) := ileft _ _ 0 n n k _ (by omega) hlt (Lay.left HL.out k (by omega) (Nat.le_refl _))
      have HC2 : Hid (Calls Tryz.prog 33 #[.slice (some ⟨ba, oa, none⟩) n ca, .int .i64 (k : Int)] wr.drew fun e w' => e = .returned (.int .u8 (left za k)) ∧ w' = wr.drew) := ileft _ ba oa n ca k _ (by omega) hlt (habo.left k (by omega))
      have HC3 : Hid (Calls Tryz.prog 58 #[.int .u8 (left zs k), .int .u8 (za.getD k 0), .int .u8 (left za k)] wr.drew fun e w' => e = .returned (.int .u8 (guess 4 (left zs k) (za.getD k 0) (left za k))) ∧ w' = wr.drew) := ig4 _ _ _ _ b3 b2 b4
      have HST : Hid (Lay (w2.alloc (.cells #[.func (.func 58) #[] #[]] 57)) (wr.drew.setCell ⟨w2.heap.size + 1, k, none⟩ (.int .u8 ((zr.getD k 0 + guess 4 (left zs k) (za.getD k 0) (left za k)) % 256))) (w2.heap.size + 1) zs (k + 1)) := by rw [← HZ.out]; exact Lay.step HL.out (by omega)
      clear hl hrow habo
      generalize guess 4 (left zs k) (za.getD k 0) (left za k) = g at *
      generalize left zs k = lr at *
      generalize left za k = la at *
      generalize zr.getD k 0 = x at *
      generalize za.getD k 0 = y at *
      have hB : w2.heap.size + 1 < wr.heap.size := HL.out.2.1
      clear HZ
      have g0 : w2.heap.size < w2.heap.size + 1 := by omega
      have g1 : br < w2.heap.size + 1 := by omega
      have g2 : ba < w2.heap.size + 1 := by omega
      generalize w2.heap.size + 1 = B at *
      have f0 : ∀ v, (wr.setCell ⟨B, k, none⟩ v).drew.cell? ⟨w2.heap.size, 0, none⟩ = some (.func (.func 58) #[] #[]) := fun v => (World.cell?_setCell_other wr _ _ _ (fun h => by injection h; omega)).trans e0
      have f1 : ∀ v, (wr.setCell ⟨B, k, none⟩ v).drew.cell? ⟨br, or + k, none⟩ = some (.int .u8 x) := fun v => (World.cell?_setCell_other wr _ _ _ (fun h => by injection h; omega)).trans e1
      have f2 : ∀ v, (wr.setCell ⟨B, k, none⟩ v).drew.cell? ⟨ba, oa + k, none⟩ = some (.int .u8 y) := fun v => (World.cell?_setCell_other wr _ _ _ (fun h => by injection h; omega)).trans e2
      have k0 : (0 : Int) ≤ (k : Int) := by omega
      have k1 : (k : Int) < (n : Int) := by omega
      have hw4 : IntKind.u8.wrap (x + g) = (x + g) % 256 := IntKind.wrap_u8 _
      go_wp2
      go_region_held3 (fun w' => w'.cell? ⟨br, or + k, none⟩ = some (.int .u8 x) ∧ w'.cell? ⟨ba, oa + k, none⟩ = some (.int .u8 y) ∧ w'.cell? ⟨w2.heap.size, 0, none⟩ = some (.func (.func 58) #[] #[])) (first | exact ⟨e1, e2, e0⟩ | exact ⟨f1 _, f2 _, f0 _⟩)
        (first
          | (go_at_call_of 33 (Value.slice (some ⟨B, 0, none⟩) n n); refine Calls.mono HC1.out ?_; rintro e w5 ⟨rfl, rfl⟩)
          | (go_at_call_of 33 (Value.slice (some ⟨ba, oa, none⟩) n ca); refine Calls.mono HC2.out ?_; rintro e w5 ⟨rfl, rfl⟩)
          | (go_at_call 58; refine Calls.mono HC3.out ?_; rintro e w5 ⟨rfl, rfl⟩))
      go_wp2
      go_roundw
      case rel => exact ⟨k + 1, by omega, by go_num, HST.out⟩
      case measure => simp [intOf]; omega
    · have e : k = n := by omega
      subst e
      rw [← hzs] at hl
      have HA : Hid (Nw w1 wr ∧ w1.heap.size ≤ w2.heap.size + 1 ∧ At wr (w2.heap.size + 1) zs) := ⟨Below.trans HN3.out (Below.mono hl.1 (by omega)), by omega, Lay.done hl⟩
      clear hl
      go_wp2
      go_ret2
      exact ⟨_, rfl, HA.out⟩
end Go.Proofs.YtaeicgfebeliiaaGreatDoor

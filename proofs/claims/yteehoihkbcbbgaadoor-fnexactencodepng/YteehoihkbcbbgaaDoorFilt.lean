/-
  What the specification's l3Filter and l3Unfilter do; each theorem names its conditions.
-/
import Derived.Test.YteehoihkbcbbgaaDoorGuess
import Derived.Test.YteehoihkbcbbgaaDoorLay
import Derived.Deep.RegionHeld3
namespace Go.Proofs.YteehoihkbcbbgaaDoor
open Go.ChangeShapes Go.WideShapes Go.ChangeAt Go.RowKit
set_option linter.unusedVariables false

theorem ileft (W : World) (b off n cap k : Nat) (v : Int) (hn : n ≤ 1048576) (hk : k < n) (h : (k < 4 ∧ v = 0) ∨ (4 ≤ k ∧ W.cell? ⟨b, off + (k - 4), none⟩ = some (.int .u8 v))) :
    Calls Tryd.prog 107 #[.slice (some ⟨b, off, none⟩) n cap, .int .i64 (k : Int)] W fun e w' => e = .returned (.int .u8 v) ∧ w' = W := by
  rcases h with ⟨h, rfl⟩ | ⟨h, hc⟩
  · go_enter Tryd.func107, Tryd.ntmps107
    go_wp2
    go_ret
    exact ⟨rfl, rfl⟩
  · obtain ⟨j, rfl⟩ : ∃ j, k = j + 4 := ⟨k - 4, by omega⟩
    rw [Nat.add_sub_cancel] at hc
    have e : ((j + 4 : Nat) : Int) - 4 = (j : Int) := by omega
    have e2 : decide (((j + 4 : Nat) : Int) < 4) = false := by simp; omega
    have hj : j < n := by omega
    generalize ((j + 4 : Nat) : Int) = K at *
    go_enter Tryd.func107, Tryd.ntmps107
    go_wp2
    go_ret
    exact ⟨rfl, rfl⟩
theorem sat (W : World) (b off n cap k : Nat) (v : Int) (hv : 0 ≤ v ∧ v ≤ 255) (hn : n ≤ 1048576) (hk : k < n) (h : (k < 4 ∧ v = 0) ∨ (4 ≤ k ∧ W.cell? ⟨b, off + (k - 4), none⟩ = some (.int .u8 v))) :
    Calls Tryd.prog 114 #[.slice (some ⟨b, off, none⟩) n cap, .int .i64 ((k : Int) - 4)] W fun e w' => e = .returned (.int .i64 v) ∧ w' = W := by
  rcases h with ⟨h, rfl⟩ | ⟨h, hc⟩
  · go_enter Tryd.func114, Tryd.ntmps114
    go_wp2
    go_ret
    exact ⟨rfl, rfl⟩
  · obtain ⟨j, rfl⟩ : ∃ j, k = j + 4 := ⟨k - 4, by omega⟩
    rw [Nat.add_sub_cancel] at hc
    have e : ((j + 4 : Nat) : Int) - 4 = (j : Int) := by omega
    rw [e]
    have hj : j < n := by omega
    clear e
    go_enter Tryd.func114, Tryd.ntmps114
    go_wp2
    go_ret
    exact ⟨rfl, rfl⟩

/-- The numbers zs lie from ⟨b, off⟩ on. -/
def Lie (w : World) (b off : Nat) (zs : List Int) : Prop := b < w.heap.size ∧ ∀ i, i < zs.length → w.cell? ⟨b, off + i, none⟩ = some (.int .u8 (zs.getD i 0))
theorem Lie.below {w w' : World} {b off B : Nat} {zs : List Int} (h : Lie w b off zs) (k : Below B w w') (hb : b < B) : Lie w' b off zs :=
  ⟨Nat.lt_of_lt_of_le h.1 k.size, fun i hi => (k.cell (p := ⟨b, off + i, none⟩) hb).trans (h.2 i hi)⟩
theorem Lie.left {w : World} {b off : Nat} {zs : List Int} (h : Lie w b off zs) (k : Nat) (hk : k < zs.length) : (k < 4 ∧ left zs k = 0) ∨ (4 ≤ k ∧ w.cell? ⟨b, off + (k - 4), none⟩ = some (.int .u8 (left zs k))) := by
  by_cases h4 : k < 4
  · exact Or.inl ⟨h4, by simp [Go.Proofs.YteehoihkbcbbgaaDoor.left, h4]⟩
  · refine Or.inr ⟨by omega, ?_⟩
    have := h.2 (k - 4) (by omega)
    simpa [Go.Proofs.YteehoihkbcbbgaaDoor.left, h4] using this
theorem left_bd (zs : List Int) (h8 : ∀ z ∈ zs, 0 ≤ z ∧ z ≤ 255) (k : Nat) (hk : k < zs.length) : 0 ≤ left zs k ∧ left zs k ≤ 255 := by
  unfold left
  split
  · omega
  · exact u8_get zs h8 (k - 4) (by omega)
/-- What a filter leaves, and what comes back from it. -/
def IsFilt (kind : Nat) (zr za zs : List Int) : Prop := zs.length = zr.length ∧ ∀ k, k < zr.length → zs.getD k 0 = (zr.getD k 0 - guess kind (left zr k) (za.getD k 0) (left za k)) % 256
def IsUnf (kind : Nat) (zr za zs : List Int) : Prop := zs.length = zr.length ∧ ∀ k, k < zr.length → zs.getD k 0 = (zr.getD k 0 + guess kind (left zs k) (za.getD k 0) (left za k)) % 256

set_option maxHeartbeats 2000000 in
theorem sl3filter (W : World) (kind : Nat) (hkind : kind ≤ 4) (br or cr ba oa ca n : Nat) (zr za zs : List Int) (hn : n ≤ 1048576) (hzr : zr.length = n) (hza : za.length = n) (hr : Lie W br or zr) (ha : Lie W ba oa za) (h8r : ∀ z ∈ zr, 0 ≤ z ∧ z ≤ 255) (h8a : ∀ z ∈ za, 0 ≤ z ∧ z ≤ 255) (hf : IsFilt kind zr za zs) :
    Calls Tryd.prog 101 #[.int .i64 (kind : Int), .slice (some ⟨br, or, none⟩) n cr, .slice (some ⟨ba, oa, none⟩) n ca] W fun e w' => e = .returned (.slice (some ⟨W.heap.size, 0, none⟩) n n) ∧ Nw W w' ∧ At w' W.heap.size zs := by
  have hmk := run_make_row' (P := Tryd.prog) 22 5 (.int .u8 0) 1 Tryd.underlying22 Tryd.info5 rfl .i64 .i64 n (by omega) (by omega)
  have hzs : zs.length = n := by rw [hf.1, hzr]
  have HLS : Hid (Lay W (W.alloc (.cells (madeCells #[Value.int .u8 0] n) 5)) W.heap.size zs 0) := Lay.start W W _ n zs 5 hzs rfl (Below.refl _ _)
  have hbr := hr.1
  have hba := ha.1
  have HRow : Hid _ := hr
  have HAbo : Hid _ := ha
  have H8r : Hid _ := h8r
  have H8a : Hid _ := h8a
  have HF : Hid _ := hf
  clear hr ha h8r h8a hf
  go_enter Tryd.func101, Tryd.ntmps101
  go_wp2
  go_loopw [14] (fun i wr => ∃ k : Nat, k ≤ n ∧ i = .int .i64 k ∧ Lay W wr W.heap.size zs k) (fun i _ => n - (intOf i).toNat)
  case atStart => exact ⟨0, Nat.zero_le _, rfl, HLS.out⟩
  case round =>
    obtain ⟨k, hk, rfl, hl⟩ := hrel
    clear hmk HLS
    by_cases hlt : k < n
    · have HL : Hid _ := hl
      have hrow : Lie wr br or zr := Lie.below HRow.out hl.1 hbr
      have habo : Lie wr ba oa za := Lie.below HAbo.out hl.1 hba
      have e1 := hrow.2 k (by omega)
      have e2 := habo.2 k (by omega)
      have e3 := hl.2.2.2.1 k (Nat.le_refl _) (by omega)
      have e4 := hl.2.2.2.2 k
      rw [Nat.zero_add] at e3
      have b1 := u8_get zr H8r.out k (by omega)
      have b2 := u8_get za H8a.out k (by omega)
      have b3 := left_bd zr H8r.out k (by omega)
      have b4 := left_bd za H8a.out k (by omega)
      have b5 := guess_bd kind (left zr k) (za.getD k 0) (left za k) b3 b2 b4
      have HZ : Hid (zs.getD k 0 = (zr.getD k 0 - guess kind (left zr k) (za.getD k 0) (left za k)) % 256) := HF.out.2 k (by omega)
      have HC1 : Hid (Calls Tryd.prog 114 #[.slice (some ⟨br, or, none⟩) n cr, .int .i64 ((k : Int) - 4)] wr.drew fun e w' => e = .returned (.int .i64 (left zr k)) ∧ w' = wr.drew) := sat _ br or n cr k _ b3 hn hlt (hrow.left k (by omega))
      have HC2 : Hid (Calls Tryd.prog 114 #[.slice (some ⟨ba, oa, none⟩) n ca, .int .i64 ((k : Int) - 4)] wr.drew fun e w' => e = .returned (.int .i64 (left za k)) ∧ w' = wr.drew) := sat _ ba oa n ca k _ b4 hn hlt (habo.left k (by omega))
      have HC3 : Hid (Calls Tryd.prog 113 #[.int .i64 (kind : Int), .int .i64 (left zr k), .int .i64 (za.getD k 0), .int .i64 (left za k)] wr.drew fun e w' => e = .returned (.int .i64 (guess kind (left zr k) (za.getD k 0) (left za k))) ∧ w' = wr.drew) := sguess _ kind hkind _ _ _ b3 b2 b4
      have HST : Hid (Lay W (wr.drew.setCell ⟨W.heap.size, k, none⟩ (.int .u8 ((zr.getD k 0 - guess kind (left zr k) (za.getD k 0) (left za k)) % 256))) W.heap.size zs (k + 1)) := by rw [← HZ.out]; exact Lay.step HL.out (by omega)
      clear hl hrow habo
      generalize guess kind (left zr k) (za.getD k 0) (left za k) = g at *
      generalize left zr k = lr at *
      generalize left za k = la at *
      generalize zr.getD k 0 = x at *
      generalize za.getD k 0 = y at *
      have hB : W.heap.size < wr.heap.size := HL.out.2.1
      have f1 : ∀ v, (wr.setCell ⟨W.heap.size, k, none⟩ v).drew.cell? ⟨br, or + k, none⟩ = some (.int .u8 x) := fun v => (World.cell?_setCell_other wr _ _ _ (fun h => by injection h; omega)).trans e1
      have f2 : ∀ v, (wr.setCell ⟨W.heap.size, k, none⟩ v).drew.cell? ⟨ba, oa + k, none⟩ = some (.int .u8 y) := fun v => (World.cell?_setCell_other wr _ _ _ (fun h => by injection h; omega)).trans e2
      have k0 : (0 : Int) ≤ (k : Int) := by omega
      have k1 : (k : Int) < (n : Int) := by omega
      have hw1 : IntKind.i64.wrap ((k : Int) - 4) = (k : Int) - 4 := IntWalk.i64_in _ ⟨by omega, by omega⟩
      have hw2 : IntKind.i64.wrap y = y := IntWalk.i64_in _ ⟨by omega, by omega⟩
      have hw3 : IntKind.u8.wrap g = g := by rw [IntKind.wrap_u8]; omega
      have hw4 : IntKind.u8.wrap (x - g) = (x - g) % 256 := IntKind.wrap_u8 _
      clear HZ
      go_wp2
      go_region_held3 (fun w' => w'.cell? ⟨br, or + k, none⟩ = some (.int .u8 x) ∧ w'.cell? ⟨ba, oa + k, none⟩ = some (.int .u8 y)) (first | exact ⟨e1, e2⟩ | exact ⟨f1 _, f2 _⟩)
        (first
          | (go_at_call_of 114 (Value.slice (some ⟨br, or, none⟩) n cr); refine Calls.mono HC1.out ?_; rintro e w5 ⟨rfl, rfl⟩)
          | (go_at_call_of 114 (Value.slice (some ⟨ba, oa, none⟩) n ca); refine Calls.mono HC2.out ?_; rintro e w5 ⟨rfl, rfl⟩)
          | (go_at_call 113; refine Calls.mono HC3.out ?_; rintro e w5 ⟨rfl, rfl⟩))
      go_wp2
      go_roundw
      case rel => exact ⟨k + 1, by omega, by go_num, HST.out⟩
      case measure => simp [intOf]; omega
    · have e : k = n := by omega
      subst e
      rw [← hzs] at hl
      have HA : Hid (Nw W wr ∧ At wr W.heap.size zs) := ⟨hl.1, Lay.done hl⟩
      clear hl
      go_wp2
      go_ret
      exact ⟨rfl, HA.out⟩
theorem IsUnf.bd {kind : Nat} {zr za zs : List Int} (h : IsUnf kind zr za zs) (k : Nat) (hk : k < zr.length) : 0 ≤ left zs k ∧ left zs k ≤ 255 := by
  unfold left
  split
  · omega
  · rw [h.2 (k - 4) (by omega)]; omega
theorem Lay.left {W wr : World} {B : Nat} {zs : List Int} {j : Nat} (h : Lay W wr B zs j) (k : Nat) (hk : k < zs.length) (hj : k ≤ j) : (k < 4 ∧ left zs k = 0) ∨ (4 ≤ k ∧ wr.cell? ⟨B, 0 + (k - 4), none⟩ = some (.int .u8 (left zs k))) := by
  by_cases h4 : k < 4
  · exact Or.inl ⟨h4, by simp [Go.Proofs.YteehoihkbcbbgaaDoor.left, h4]⟩
  · refine Or.inr ⟨by omega, ?_⟩
    have := h.2.2.1 (k - 4) (by omega)
    simpa [Go.Proofs.YteehoihkbcbbgaaDoor.left, h4] using this

set_option maxHeartbeats 2000000 in
theorem sl3unfilter (W : World) (kind : Nat) (hkind : kind ≤ 4) (br or cr ba oa ca n : Nat) (zr za zs : List Int) (hn : n ≤ 1048576) (hzr : zr.length = n) (hza : za.length = n) (hr : Lie W br or zr) (ha : Lie W ba oa za) (h8r : ∀ z ∈ zr, 0 ≤ z ∧ z ≤ 255) (h8a : ∀ z ∈ za, 0 ≤ z ∧ z ≤ 255) (hf : IsUnf kind zr za zs) :
    Calls Tryd.prog 75 #[.int .i64 (kind : Int), .slice (some ⟨br, or, none⟩) n cr, .slice (some ⟨ba, oa, none⟩) n ca] W fun e w' => e = .returned (.slice (some ⟨W.heap.size, 0, none⟩) n n) ∧ Nw W w' ∧ At w' W.heap.size zs := by
  have hmk := run_make_row' (P := Tryd.prog) 22 5 (.int .u8 0) 1 Tryd.underlying22 Tryd.info5 rfl .i64 .i64 n (by omega) (by omega)
  have hzs : zs.length = n := by rw [hf.1, hzr]
  have HLS : Hid (Lay W (W.alloc (.cells (madeCells #[Value.int .u8 0] n) 5)) W.heap.size zs 0) := Lay.start W W _ n zs 5 hzs rfl (Below.refl _ _)
  have hbr := hr.1
  have hba := ha.1
  have HRow : Hid _ := hr
  have HAbo : Hid _ := ha
  have H8r : Hid _ := h8r
  have H8a : Hid _ := h8a
  have HF : Hid _ := hf
  clear hr ha h8r h8a hf
  go_enter Tryd.func75, Tryd.ntmps75
  go_wp2
  go_loopw [14] (fun i wr => ∃ k : Nat, k ≤ n ∧ i = .int .i64 k ∧ Lay W wr W.heap.size zs k) (fun i _ => n - (intOf i).toNat)
  case atStart => exact ⟨0, Nat.zero_le _, rfl, HLS.out⟩
  case round =>
    obtain ⟨k, hk, rfl, hl⟩ := hrel
    clear hmk HLS
    by_cases hlt : k < n
    · have HL : Hid _ := hl
      have hrow : Lie wr br or zr := Lie.below HRow.out hl.1 hbr
      have habo : Lie wr ba oa za := Lie.below HAbo.out hl.1 hba
      have e1 := hrow.2 k (by omega)
      have e2 := habo.2 k (by omega)
      have e3 := hl.2.2.2.1 k (Nat.le_refl _) (by omega)
      have e4 := hl.2.2.2.2 k
      rw [Nat.zero_add] at e3
      have b1 := u8_get zr H8r.out k (by omega)
      have b2 := u8_get za H8a.out k (by omega)
      have b3 := IsUnf.bd HF.out k (by omega)
      have b4 := left_bd za H8a.out k (by omega)
      have b5 := guess_bd kind (left zs k) (za.getD k 0) (left za k) b3 b2 b4
      have HZ : Hid (zs.getD k 0 = (zr.getD k 0 + guess kind (left zs k) (za.getD k 0) (left za k)) % 256) := HF.out.2 k (by omega)
      have HC1 : Hid (Calls Tryd.prog 114 #[.slice (some ⟨W.heap.size, 0, none⟩) n n, .int .i64 ((k : Int) - 4)] wr.drew fun e w' => e = .returned (.int .i64 (left zs k)) ∧ w' = wr.drew) := sat _ _ 0 n n k _ b3 hn hlt (Lay.left HL.out k (by omega) (Nat.le_refl _))
      have HC2 : Hid (Calls Tryd.prog 114 #[.slice (some ⟨ba, oa, none⟩) n ca, .int .i64 ((k : Int) - 4)] wr.drew fun e w' => e = .returned (.int .i64 (left za k)) ∧ w' = wr.drew) := sat _ ba oa n ca k _ b4 hn hlt (habo.left k (by omega))
      have HC3 : Hid (Calls Tryd.prog 113 #[.int .i64 (kind : Int), .int .i64 (left zs k), .int .i64 (za.getD k 0), .int .i64 (left za k)] wr.drew fun e w' => e = .returned (.int .i64 (guess kind (left zs k) (za.getD k 0) (left za k))) ∧ w' = wr.drew) := sguess _ kind hkind _ _ _ b3 b2 b4
      have HST : Hid (Lay W (wr.drew.setCell ⟨W.heap.size, k, none⟩ (.int .u8 ((zr.getD k 0 + guess kind (left zs k) (za.getD k 0) (left za k)) % 256))) W.heap.size zs (k + 1)) := by rw [← HZ.out]; exact Lay.step HL.out (by omega)
      clear hl hrow habo
      generalize guess kind (left zs k) (za.getD k 0) (left za k) = g at *
      generalize left zs k = lr at *
      generalize left za k = la at *
      generalize zr.getD k 0 = x at *
      generalize za.getD k 0 = y at *
      have hB : W.heap.size < wr.heap.size := HL.out.2.1
      have f1 : ∀ v, (wr.setCell ⟨W.heap.size, k, none⟩ v).drew.cell? ⟨br, or + k, none⟩ = some (.int .u8 x) := fun v => (World.cell?_setCell_other wr _ _ _ (fun h => by injection h; omega)).trans e1
      have f2 : ∀ v, (wr.setCell ⟨W.heap.size, k, none⟩ v).drew.cell? ⟨ba, oa + k, none⟩ = some (.int .u8 y) := fun v => (World.cell?_setCell_other wr _ _ _ (fun h => by injection h; omega)).trans e2
      have k0 : (0 : Int) ≤ (k : Int) := by omega
      have k1 : (k : Int) < (n : Int) := by omega
      have hw1 : IntKind.i64.wrap ((k : Int) - 4) = (k : Int) - 4 := IntWalk.i64_in _ ⟨by omega, by omega⟩
      have hw2 : IntKind.i64.wrap y = y := IntWalk.i64_in _ ⟨by omega, by omega⟩
      have hw3 : IntKind.u8.wrap g = g := by rw [IntKind.wrap_u8]; omega
      have hw4 : IntKind.u8.wrap (x + g) = (x + g) % 256 := IntKind.wrap_u8 _
      clear HZ
      go_wp2
      go_region_held3 (fun w' => w'.cell? ⟨br, or + k, none⟩ = some (.int .u8 x) ∧ w'.cell? ⟨ba, oa + k, none⟩ = some (.int .u8 y)) (first | exact ⟨e1, e2⟩ | exact ⟨f1 _, f2 _⟩)
        (first
          | (go_at_call_of 114 (Value.slice (some ⟨W.heap.size, 0, none⟩) n n); refine Calls.mono HC1.out ?_; rintro e w5 ⟨rfl, rfl⟩)
          | (go_at_call_of 114 (Value.slice (some ⟨ba, oa, none⟩) n ca); refine Calls.mono HC2.out ?_; rintro e w5 ⟨rfl, rfl⟩)
          | (go_at_call 113; refine Calls.mono HC3.out ?_; rintro e w5 ⟨rfl, rfl⟩))
      go_wp2
      go_roundw
      case rel => exact ⟨k + 1, by omega, by go_num, HST.out⟩
      case measure => simp [intOf]; omega
    · have e : k = n := by omega
      subst e
      rw [← hzs] at hl
      have HA : Hid (Nw W wr ∧ At wr W.heap.size zs) := ⟨hl.1, Lay.done hl⟩
      clear hl
      go_wp2
      go_ret
      exact ⟨rfl, HA.out⟩
end Go.Proofs.YteehoihkbcbbgaaDoor

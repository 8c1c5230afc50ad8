/-
  A new list of bytes that is being written, and what stands left in a row; each theorem names its conditions.
  What the specification's l3Filter and l3Unfilter do; each theorem names its conditions.
  Lists of bytes of the call's own, with what the filters are told by; each theorem names its conditions.
  What Crc32 answers, of the program and of the specification; each theorem names its conditions.
-/
import Derived.Test.YtaeicgfebeliiaaGreatDoorJAF
import Derived.Test.YtaeicgfebeliiaaGreatDoorJAJ
import Derived.Test.YtaeicgfebeliiaaGreatDoorJAG
import Derived.Deep.RegionHeld3
import Derived.Test.YtaeicgfebeliiaaGreatDoorJAH
namespace Go.Proofs.YtaeicgfebeliiaaGreatDoor
open Go.ChangeShapes Go.WideShapes Go.ChangeAt Go.RowKit
set_option linter.unusedVariables false

/-- The first k numbers of zs have been written into the block B, noughts stand behind them; nothing ahead of B has changed. -/
def Lay (W wr : World) (B : Nat) (zs : List Int) (k : Nat) : Prop :=
  Below B W wr ∧ B < wr.heap.size ∧ (∀ m, m < k → wr.cell? ⟨B, 0 + m, none⟩ = some (.int .u8 (zs.getD m 0))) ∧ (∀ m, k ≤ m → m < zs.length → wr.cell? ⟨B, 0 + m, none⟩ = some (.int .u8 0)) ∧ ∀ o, wr.frozen? ⟨B, o, none⟩ = false
theorem Lay.start (W W1 : World) (B n : Nat) (zs : List Int) (t : TypeId) (hn : zs.length = n) (hB : W1.heap.size = B) (h : Below B W W1) : Lay W (W1.alloc (.cells (madeCells #[Value.int .u8 0] n) t)) B zs 0 := by
  subst hn hB
  have e := part_none .u8 zs
  refine ⟨h.alloc (Nat.le_refl _) _, by simp, fun m hm => absurd hm (by omega), fun m _ hm => ?_, fun o => World.frozen?_alloc_at _ _ _ _ rfl⟩
  have e2 : (part .u8 zs 0)[m]? = some (.int .u8 0) := by
    simp [part, hm]
  rw [e]
  simp [e2]
theorem Lay.step {W wr : World} {B : Nat} {zs : List Int} {k : Nat} (h : Lay W wr B zs k) (hk : k < zs.length) : Lay W (wr.drew.setCell ⟨B, k, none⟩ (.int .u8 (zs.getD k 0))) B zs (k + 1) := by
  obtain ⟨h1, h2, h3, h4, h5⟩ := h
  have c0 := h4 k (Nat.le_refl _) hk
  rw [Nat.zero_add] at c0
  refine ⟨h1.drew.setCell (show B ≤ (Addr.mk B k none).block from Nat.le_refl B) _, by simpa [World.setCell] using h2, fun m hm => ?_, fun m hm1 hm2 => ?_, fun o => ?_⟩
  · by_cases e : m = k
    · subst e; rw [Nat.zero_add]; exact World.cell?_setCell_same wr.drew ⟨B, m, none⟩ _ c0
    · rw [World.cell?_setCell_other _ _ _ _ (fun h => by injection h; omega)]; exact h3 m (by omega)
  · rw [World.cell?_setCell_other _ _ _ _ (fun h => by injection h; omega)]; exact h4 m (by omega) hm2
  · rw [World.frozen?_setCell]; exact h5 o
theorem Lay.done {W wr : World} {B : Nat} {zs : List Int} (h : Lay W wr B zs zs.length) : At wr B zs :=
  ⟨h.2.1, h.2.2.1, h.2.2.2.2⟩
def left (zs : List Int) (k : Nat) : Int := if k < 4 then 0 else zs.getD (k - 4) 0
end Go.Proofs.YtaeicgfebeliiaaGreatDoor
namespace Go.Proofs.YtaeicgfebeliiaaGreatDoor
open Go.ChangeShapes Go.WideShapes Go.ChangeAt Go.RowKit
set_option linter.unusedVariables false

theorem ileft (W : World) (b off n cap k : Nat) (v : Int) (hn : n ≤ 1048576) (hk : k < n) (h : (k < 4 ∧ v = 0) ∨ (4 ≤ k ∧ W.cell? ⟨b, off + (k - 4), none⟩ = some (.int .u8 v))) :
    Calls Tryz.prog 33 #[.slice (some ⟨b, off, none⟩) n cap, .int .i64 (k : Int)] W fun e w' => e = .returned (.int .u8 v) ∧ w' = W := by
  rcases h with ⟨h, rfl⟩ | ⟨h, hc⟩
  · go_enter Tryz.func33, Tryz.ntmps33
    go_wp2
    go_ret
    exact ⟨rfl, rfl⟩
  · obtain ⟨j, rfl⟩ : ∃ j, k = j + 4 := ⟨k - 4, by omega⟩
    rw [Nat.add_sub_cancel] at hc
    have e : ((j + 4 : Nat) : Int) - 4 = (j : Int) := by omega
    have e2 : decide (((j + 4 : Nat) : Int) < 4) = false := by simp; omega
    have hj : j < n := by omega
    generalize ((j + 4 : Nat) : Int) = K at *
    go_enter Tryz.func33, Tryz.ntmps33
    go_wp2
    go_ret
    exact ⟨rfl, rfl⟩
theorem sat (W : World) (b off n cap k : Nat) (v : Int) (hv : 0 ≤ v ∧ v ≤ 255) (hn : n ≤ 1048576) (hk : k < n) (h : (k < 4 ∧ v = 0) ∨ (4 ≤ k ∧ W.cell? ⟨b, off + (k - 4), none⟩ = some (.int .u8 v))) :
    Calls Tryz.prog 60 #[.slice (some ⟨b, off, none⟩) n cap, .int .i64 ((k : Int) - 4)] W fun e w' => e = .returned (.int .i64 v) ∧ w' = W := by
  rcases h with ⟨h, rfl⟩ | ⟨h, hc⟩
  · go_enter Tryz.func60, Tryz.ntmps60
    go_wp2
    go_ret
    exact ⟨rfl, rfl⟩
  · obtain ⟨j, rfl⟩ : ∃ j, k = j + 4 := ⟨k - 4, by omega⟩
    rw [Nat.add_sub_cancel] at hc
    have e : ((j + 4 : Nat) : Int) - 4 = (j : Int) := by omega
    rw [e]
    have hj : j < n := by omega
    clear e
    go_enter Tryz.func60, Tryz.ntmps60
    go_wp2
    go_ret
    exact ⟨rfl, rfl⟩

theorem Lie.left {w : World} {b off : Nat} {zs : List Int} (h : Lie w b off zs) (k : Nat) (hk : k < zs.length) : (k < 4 ∧ left zs k = 0) ∨ (4 ≤ k ∧ w.cell? ⟨b, off + (k - 4), none⟩ = some (.int .u8 (left zs k))) := by
  by_cases h4 : k < 4
  · exact Or.inl ⟨h4, by simp [Go.Proofs.YtaeicgfebeliiaaGreatDoor.left, h4]⟩
  · refine Or.inr ⟨by omega, ?_⟩
    have := h.2 (k - 4) (by omega)
    simpa [Go.Proofs.YtaeicgfebeliiaaGreatDoor.left, h4] using this
theorem left_bd (zs : List Int) (h8 : ∀ z ∈ zs, 0 ≤ z ∧ z ≤ 255) (k : Nat) (hk : k < zs.length) : 0 ≤ left zs k ∧ left zs k ≤ 255 := by
  unfold left
  split
  · omega
  · exact u8_get zs h8 (k - 4) (by omega)
/-- What a filter leaves, and what comes back from it. -/
def IsFilt (kind : Nat) (zr za zs : List Int) : Prop := zs.length = zr.length ∧ ∀ k, k < zr.length → zs.getD k 0 = (zr.getD k 0 - guess kind (left zr k) (za.getD k 0) (left za k)) % 256
def IsUnf (kind : Nat) (zr za zs : List Int) : Prop := zs.length = zr.length ∧ ∀ k, k < zr.length → zs.getD k 0 = (zr.getD k 0 + guess kind (left zs k) (za.getD k 0) (left za k)) % 256

set_option maxHeartbeats 2000000 in
theorem sl3filter (W : World) (kind : Nat) (hkind : kind ≤ 4) (br or cr ba oa ca n : Nat) (zr za zs : List Int) (hn : n ≤ 1048576) (hzr : zr.length = n) (hza : za.length = n) (hr : Lie W br or zr) (ha : Lie W ba oa za) (h8r : ∀ z ∈ zr, 0 ≤ z ∧ z ≤ 255) (h8a : ∀ z ∈ za, 0 ≤ z ∧ z ≤ 255) (hf : IsFilt kind zr za zs) :
    Calls Tryz.prog 36 #[.int .i64 (kind : Int), .slice (some ⟨br, or, none⟩) n cr, .slice (some ⟨ba, oa, none⟩) n ca] W fun e w' => e = .returned (.slice (some ⟨W.heap.size, 0, none⟩) n n) ∧ Nw W w' ∧ At w' W.heap.size zs := by
  have hmk := run_make_row' (P := Tryz.prog) 22 5 (.int .u8 0) 1 Tryz.underlying22 Tryz.info5 rfl .i64 .i64 n (by omega) (by omega)
  have hzs : zs.length = n := by rw [hf.1, hzr]
  have HLS : Hid (Lay W (W.alloc (.cells (madeCells #[Value.int .u8 0] n) 5)) W.heap.size zs 0) := Lay.start W W _ n zs 5 hzs rfl (Below.refl _ _)
  have hbr := hr.1
  have hba := ha.1
  have HRow : Hid _ := hr
  have HAbo : Hid _ := ha
  have H8r : Hid _ := h8r
  have H8a : Hid _ := h8a
  have HF : Hid _ := hf
  clear hr ha h8r h8a hf
  go_enter Tryz.func36, Tryz.ntmps36
  go_wp2
  go_loopw [14] (fun i wr => ∃ k : Nat, k ≤ n ∧ i = .int .i64 k ∧ Lay W wr W.heap.size zs k) (fun i _ => n - (intOf i).toNat)
  case atStart => exact ⟨0, Nat.zero_le _, rfl, HLS.out⟩
  case round =>
    obtain ⟨k, hk, rfl, hl⟩ := hrel
    clear hmk HLS
    by_cases hlt : k < n
    · have HL : Hid _ := hl
      have hrow : Lie wr br or zr := Lie.below HRow.out hl.1 hbr
      have habo : Lie wr ba oa za := Lie.below HAbo.out hl.1 hba
      have e1 := hrow.2 k (by omega)
      have e2 := habo.2 k (by omega)
      have e3 := hl.2.2.2.1 k (Nat.le_refl _) (by omega)
      have e4 := hl.2.2.2.2 k
      rw [Nat.zero_add] at e3
      have b1 := u8_get zr H8r.out k (by omega)
      have b2 := u8_get za H8a.out k (by omega)
      have b3 := left_bd zr H8r.out k (by omega)
      have b4 := left_bd za H8a.out k (by omega)
      have b5 := guess_bd kind (left zr k) (za.getD k 0) (left za k) b3 b2 b4
      have HZ : Hid (zs.getD k 0 = (zr.getD k 0 - guess kind (left zr k) (za.getD k 0) (left za k)) % 256) := HF.out.2 k (by omega)
      have HC1 : Hid (Calls Tryz.prog 60 #[.slice (some ⟨br, or, none⟩) n cr, .int .i64 ((k : Int) - 4)] wr.drew fun e w' => e = .returned (.int .i64 (left zr k)) ∧ w' = wr.drew) := sat _ br or n cr k _ b3 hn hlt (hrow.left k (by omega))
      have HC2 : Hid (Calls Tryz.prog 60 #[.slice (some ⟨ba, oa, none⟩) n ca, .int .i64 ((k : Int) - 4)] wr.drew fun e w' => e = .returned (.int .i64 (left za k)) ∧ w' = wr.drew) := sat _ ba oa n ca k _ b4 hn hlt (habo.left k (by omega))
      have HC3 : Hid (Calls Tryz.prog 59 #[.int .i64 (kind : Int), .int .i64 (left zr k), .int .i64 (za.getD k 0), .int .i64 (left za k)] wr.drew fun e w' => e = .returned (.int .i64 (guess kind (left zr k) (za.getD k 0) (left za k))) ∧ w' = wr.drew) := sguess _ kind hkind _ _ _ b3 b2 b4
      have HST : Hid (Lay W (wr.drew.setCell ⟨W.heap.size, k, none⟩ (.int .u8 ((zr.getD k 0 - guess kind (left zr k) (za.getD k 0) (left za k)) % 256))) W.heap.size zs (k + 1)) := by rw [← HZ.out]; exact Lay.step HL.out (by omega)
      clear hl hrow habo
      generalize guess kind (left zr k) (za.getD k 0) (left za k) = g at *
      generalize left zr k = lr at *
      generalize left za k = la at *
      generalize zr.getD k 0 = x at *
      generalize za.getD k 0 = y at *
      have hB : W.heap.size < wr.heap.size := HL.out.2.1
      have f1 : ∀ v, (wr.setCell ⟨W.heap.size, k, none⟩ v).drew.cell? ⟨br, or + k, none⟩ = some (.int .u8 x) := fun v => (World.cell?_setCell_other wr _ _ _ (fun h => by injection h; omega)).trans e1
      have f2 : ∀ v, (wr.setCell ⟨W.heap.size, k, none⟩ v).drew.cell? ⟨ba, oa + k, none⟩ = some (.int .u8 y) := fun v => (World.cell?_setCell_other wr _ _ _ (fun h => by injection h; omega)).trans e2
      have k0 : (0 : Int) ≤ (k : Int) := by omega
      have k1 : (k : Int) < (n : Int) := by omega
      have hw1 : IntKind.i64.wrap ((k : Int) - 4) = (k : Int) - 4 := IntWalk.i64_in _ ⟨by omega, by omega⟩
      have hw2 : IntKind.i64.wrap y = y := IntWalk.i64_in _ ⟨by omega, by omega⟩
      have hw3 : IntKind.u8.wrap g = g := by rw [IntKind.wrap_u8]; omega
      have hw4 : IntKind.u8.wrap (x - g) = (x - g) % 256 := IntKind.wrap_u8 _
      clear HZ
      go_wp2
      go_region_held3 (fun w' => w'.cell? ⟨br, or + k, none⟩ = some (.int .u8 x) ∧ w'.cell? ⟨ba, oa + k, none⟩ = some (.int .u8 y)) (first | exact ⟨e1, e2⟩ | exact ⟨f1 _, f2 _⟩)
        (first
          | (go_at_call_of 60 (Value.slice (some ⟨br, or, none⟩) n cr); refine Calls.mono HC1.out ?_; rintro e w5 ⟨rfl, rfl⟩)
          | (go_at_call_of 60 (Value.slice (some ⟨ba, oa, none⟩) n ca); refine Calls.mono HC2.out ?_; rintro e w5 ⟨rfl, rfl⟩)
          | (go_at_call 59; refine Calls.mono HC3.out ?_; rintro e w5 ⟨rfl, rfl⟩))
      go_wp2
      go_roundw
      case rel => exact ⟨k + 1, by omega, by go_num, HST.out⟩
      case measure => simp [intOf]; omega
    · have e : k = n := by omega
      subst e
      rw [← hzs] at hl
      have HA : Hid (Nw W wr ∧ At wr W.heap.size zs) := ⟨hl.1, Lay.done hl⟩
      clear hl
      go_wp2
      go_ret
      exact ⟨rfl, HA.out⟩
theorem IsUnf.bd {kind : Nat} {zr za zs : List Int} (h : IsUnf kind zr za zs) (k : Nat) (hk : k < zr.length) : 0 ≤ left zs k ∧ left zs k ≤ 255 := by
  unfold left
  split
  · omega
  · rw [h.2 (k - 4) (by omega)]; omega
theorem Lay.left {W wr : World} {B : Nat} {zs : List Int} {j : Nat} (h : Lay W wr B zs j) (k : Nat) (hk : k < zs.length) (hj : k ≤ j) : (k < 4 ∧ left zs k = 0) ∨ (4 ≤ k ∧ wr.cell? ⟨B, 0 + (k - 4), none⟩ = some (.int .u8 (left zs k))) := by
  by_cases h4 : k < 4
  · exact Or.inl ⟨h4, by simp [Go.Proofs.YtaeicgfebeliiaaGreatDoor.left, h4]⟩
  · refine Or.inr ⟨by omega, ?_⟩
    have := h.2.2.1 (k - 4) (by omega)
    simpa [Go.Proofs.YtaeicgfebeliiaaGreatDoor.left, h4] using this
end Go.Proofs.YtaeicgfebeliiaaGreatDoor

namespace Go.Proofs.YtaeicgfebeliiaaGreatDoor
open Go.ChangeShapes Go.WideShapes Go.ChangeAt Go.RowKit
set_option linter.unusedVariables false

def crc1 (c : Int) : Int := if c % 2 = 0 then c / 2 else bits .xor .u32 (c / 2) 3988292384
def crcN : Nat → Int → Int
  | 0, c => c
  | n + 1, c => crc1 (crcN n c)
def crcByte (c z : Int) : Int := crcN 8 (bits .xor .u32 c z)
def crcs (zs : List Int) : Int := zs.foldl crcByte 4294967295
def crc (zs : List Int) : Int := bits .xor .u32 (crcs zs) 4294967295
theorem crcs_snoc (zs : List Int) (z : Int) : crcs (zs ++ [z]) = crcByte (crcs zs) z := by simp [crcs]
theorem xor_u32 (a b : Int) (ha : 0 ≤ a ∧ a < 4294967296) (hb : 0 ≤ b ∧ b < 4294967296) : 0 ≤ bits .xor .u32 a b ∧ bits .xor .u32 a b < 4294967296 := by
  unfold bits
  rw [IntKind.wrap_u32]
  omega
theorem and_u32 (a : Int) (ha : 0 ≤ a ∧ a < 4294967296) : bits .and .u32 a 1 = a % 2 := by
  obtain ⟨n, rfl⟩ := Int.eq_ofNat_of_zero_le ha.1
  have h := (bits_nat .u32 32 (by decide) (fun n h0 h2 => by rw [IntKind.wrap_u32]; omega) n 1 (by omega) (by omega)).1
  have e : ((1 : Nat) : Int) = 1 := rfl
  rw [e] at h
  rw [h, Nat.and_one_is_mod]; omega
theorem xor_max (x : Int) : bits .xor .u32 IntKind.u32.max x = bits .xor .u32 x 4294967295 := by
  have e : IntKind.u32.max = 4294967295 := rfl
  rw [e]; simp only [bits]; rw [BitVec.xor_comm]
theorem crc1_bd (c : Int) (h : 0 ≤ c ∧ c < 4294967296) : 0 ≤ crc1 c ∧ crc1 c < 4294967296 := by
  unfold crc1; split
  · omega
  · exact xor_u32 _ _ (by omega) (by omega)
theorem crcN_bd (n : Nat) (c : Int) (h : 0 ≤ c ∧ c < 4294967296) : 0 ≤ crcN n c ∧ crcN n c < 4294967296 := by
  induction n with
  | zero => exact h
  | succ n ih => exact crc1_bd _ ih
theorem crcs_bd (zs : List Int) : 0 ≤ crcs zs ∧ crcs zs < 4294967296 := by
  rcases List.eq_nil_or_concat zs with rfl | ⟨ys, z, rfl⟩
  · simp [crcs]
  · rw [List.concat_eq_append, crcs_snoc]; unfold crcByte
    refine crcN_bd 8 _ ?_
    unfold bits; rw [IntKind.wrap_u32]; omega
theorem crc_bd (zs : List Int) : 0 ≤ crc zs ∧ crc zs < 4294967296 := xor_u32 _ _ (crcs_bd zs) (by omega)

theorem icrcStep (w : World) (c : Int) (h : 0 ≤ c ∧ c < 4294967296) :
    Calls Tryz.prog 61 #[.int .u32 c] w fun e w' => e = .returned (.int .u32 (crc1 c)) ∧ w' = w := by
  have ha := and_u32 c h
  obtain ⟨h0, h1⟩ := h
  by_cases h2 : c % 2 = 0
  · have HE : Hid (crc1 c = c / 2) := by show _ = _; unfold crc1; rw [if_pos h2]
    have hd : (c % 2 == 0) = true := by simp [h2]
    clear h2
    go_enter Tryz.func61, Tryz.ntmps61
    go_wp2
    go_ret
    exact ⟨by rw [HE.out]; rfl, rfl⟩
  · have HE : Hid (crc1 c = bits .xor .u32 (c / 2) 3988292384) := by show _ = _; unfold crc1; rw [if_neg h2]
    have hd : (c % 2 == 0) = false := by simp [h2]
    clear h2
    go_enter Tryz.func61, Tryz.ntmps61
    go_wp2
    go_ret
    exact ⟨by rw [HE.out]; rfl, rfl⟩

set_option maxHeartbeats 1000000 in
theorem icrc (w : World) (a : Option Addr) (cap : Nat) (zs : List Int) (hz : Row .u8 w a zs) (hl : zs.length ≤ 1048576) (h8 : ∀ z ∈ zs, 0 ≤ z ∧ z ≤ 255) :
    Calls Tryz.prog 38 #[.slice a zs.length cap] w fun e w' => e = .returned (.int .u32 (crc zs)) ∧ w' = w := by
  have H8 : Hid _ := h8
  clear h8
  go_enter Tryz.func38, Tryz.ntmps38
  go_wp2
  go_loop [3, 8] (fun x i => ∃ k : Nat, k ≤ zs.length ∧ i = .int .i64 k ∧ x = .int .u32 (crcs (zs.take k))) (fun _ i => zs.length - (intOf i).toNat)
  case atStart => exact ⟨0, Nat.zero_le _, rfl, rfl⟩
  case round =>
    obtain ⟨k, hk, rfl, rfl⟩ := hrel
    have hb := crcs_bd (zs.take k)
    by_cases hlt : k < zs.length
    · rcases hz with rfl | ⟨b, off, rfl, hb2, hc⟩
      · exact absurd hlt (by simp)
      have c0 := hc k hlt
      have hz := u8_get zs H8.out k hlt
      have hs := crcs_snoc (zs.take k) (zs.getD k 0)
      rw [← take_snoc zs k hlt] at hs
      have HS : Hid _ := hs
      clear hs hc
      generalize zs.getD k 0 = z at *
      generalize crcs (zs.take k) = x at *
      have HX : Hid _ := crcN_bd
      have hx := xor_u32 x z hb (by omega)
      go_wp2
      go_loop [3, 16] (fun y i => ∃ j : Nat, j ≤ 8 ∧ i = .int .i64 j ∧ y = .int .u32 (crcN j (bits .xor .u32 x z))) (fun _ i => 8 - (intOf i).toNat)
      case atStart => exact ⟨0, by omega, rfl, rfl⟩
      case round =>
        obtain ⟨j, hj, rfl, rfl⟩ := hrel
        have hbj := HX.out j _ hx
        by_cases hl8 : j < 8
        · have HC : Hid _ := icrcStep w (crcN j (bits .xor .u32 x z)) hbj
          go_wp2_with fail
          refine Calls.mono HC.out ?_
          rintro e w1 ⟨rfl, rfl⟩
          go_wp2
          go_round
          case rel => exact ⟨j + 1, by omega, by go_num, rfl⟩
          case measure => simp [intOf]; omega
        · have e : j = 8 := by omega
          subst e
          go_wp2
          go_round
          case rel => exact ⟨k + 1, by omega, by go_num, by rw [HS.out]; rfl⟩
          case measure => simp [intOf]; omega
    · have e : k = zs.length := by omega
      subst e
      have HO : Hid (crc zs = bits .xor .u32 (crcs (zs.take zs.length)) 4294967295) := by show _ = _; rw [List.take_length]; rfl
      generalize crcs (zs.take zs.length) = x at *
      go_wp2
      go_ret
      exact ⟨by rw [HO.out, ← xor_max]; rfl, rfl⟩
set_option maxHeartbeats 1000000 in
theorem sl3crc (w : World) (a : Option Addr) (cap : Nat) (zs : List Int) (hz : Row .u8 w a zs) (hl : zs.length ≤ 1048576) (h8 : ∀ z ∈ zs, 0 ≤ z ∧ z ≤ 255) :
    Calls Tryz.prog 65 #[.slice a zs.length cap] w fun e w' => e = .returned (.int .u32 (crc zs)) ∧ w' = w := by
  have H8 : Hid _ := h8
  clear h8
  go_enter Tryz.func65, Tryz.ntmps65
  go_wp2
  go_loop [3, 9] (fun x i => ∃ k : Nat, k ≤ zs.length ∧ i = .int .i64 k ∧ x = .int .u32 (crcs (zs.take k))) (fun _ i => zs.length - (intOf i).toNat)
  case atStart => exact ⟨0, Nat.zero_le _, rfl, rfl⟩
  case round =>
    obtain ⟨k, hk, rfl, rfl⟩ := hrel
    have hb := crcs_bd (zs.take k)
    by_cases hlt : k < zs.length
    · rcases hz with rfl | ⟨b, off, rfl, hb2, hc⟩
      · exact absurd hlt (by simp)
      have c0 := hc k hlt
      have hz := u8_get zs H8.out k hlt
      have hs := crcs_snoc (zs.take k) (zs.getD k 0)
      rw [← take_snoc zs k hlt] at hs
      have HS : Hid _ := hs
      clear hs hc
      generalize zs.getD k 0 = z at *
      generalize crcs (zs.take k) = x at *
      have HX : Hid _ := crcN_bd
      have hx := xor_u32 x z hb (by omega)
      go_wp2
      go_loop [3, 6] (fun y i => ∃ j : Nat, j ≤ 8 ∧ i = .int .i64 j ∧ y = .int .u32 (crcN j (bits .xor .u32 x z))) (fun _ i => 8 - (intOf i).toNat)
      case atStart => exact ⟨0, by omega, rfl, rfl⟩
      case round =>
        obtain ⟨j, hj, rfl, rfl⟩ := hrel
        have hbj := HX.out j _ hx
        by_cases hl8 : j < 8
        · have hand := and_u32 (crcN j (bits .xor .u32 x z)) hbj
          have HE : Hid (crcN (j + 1) (bits .xor .u32 x z) = crc1 (crcN j (bits .xor .u32 x z))) := rfl
          generalize crcN j (bits .xor .u32 x z) = y at *
          by_cases h2 : y % 2 = 0
          · have HF : Hid (crc1 y = y / 2) := by show _ = _; unfold crc1; rw [if_pos h2]
            have hd : (y % 2 == 1) = false := by simp [h2]
            clear h2
            go_wp2
            go_round
            case rel => exact ⟨j + 1, by omega, by go_num, by rw [HE.out, HF.out]⟩
            case measure => simp [intOf]; omega
          · have HF : Hid (crc1 y = bits .xor .u32 (y / 2) 3988292384) := by show _ = _; unfold crc1; rw [if_neg h2]
            have hd : (y % 2 == 1) = true := by simp; omega
            clear h2
            go_wp2
            go_round
            case rel => exact ⟨j + 1, by omega, by go_num, by rw [HE.out, HF.out]⟩
            case measure => simp [intOf]; omega
        · have e : j = 8 := by omega
          subst e
          go_wp2
          go_round
          case rel => exact ⟨k + 1, by omega, by go_num, by rw [HS.out]; rfl⟩
          case measure => simp [intOf]; omega
    · have e : k = zs.length := by omega
      subst e
      have HO : Hid (crc zs = bits .xor .u32 (crcs (zs.take zs.length)) 4294967295) := by show _ = _; rw [List.take_length]; rfl
      generalize crcs (zs.take zs.length) = x at *
      go_wp2
      go_ret
      exact ⟨by rw [HO.out]; rfl, rfl⟩
end Go.Proofs.YtaeicgfebeliiaaGreatDoor

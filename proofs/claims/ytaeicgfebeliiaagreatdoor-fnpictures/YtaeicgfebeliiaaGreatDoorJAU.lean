/-
  The chunks of a picture's file, read by the program; each theorem names its conditions.
  The rows of a picture that was encoded, unpacked by the program; each theorem names its conditions.
  Rows from which their filters are taken, by the program; each theorem names its conditions.
  A picture's rows without their filters, by the program; each theorem names its conditions.
-/
import Derived.Test.YtaeicgfebeliiaaGreatDoorJAT
import Derived.Laws.CopyOwn
namespace Go.Proofs.YtaeicgfebeliiaaGreatDoor
open Go.ChangeShapes Go.WideShapes Go.ChangeAt Go.RowKit
set_option linter.unusedVariables false

/-- How much has been read, by the number of chunks. -/
def ofS (L st : Nat) : Nat := if st = 0 then 0 else if st = 1 then 25 else if st = 2 then 37 + L else 49 + L
/-- What holds between two chunks. -/
structure RdS (W2 : World) (F g o n c : Nat) (wide high : Int) (pd : List Int) (st : Nat) (b v : Value) (wr : World) : Prop where
  file : FAt wr F (if st = 0 then 0 else if st = 1 then 1 else if st = 2 then 2 else 4) (if st = 0 then 0 else wide) (if st = 0 then 0 else high) v
  bel : Below F W2 wr
  bs : st < 3 → b = .slice (some ⟨g, o + ofS pd.length st, none⟩) (n - ofS pd.length st) (c - ofS pd.length st)
  len : slLen b = n - ofS pd.length st
  early : st < 2 → v = .slice none 0 0
  own : 2 ≤ st → Own wr (F + 1) v pd
theorem chunk_data {w : World} {g o : Nat} {s : ByteArray} {data rest : List Int} (hs : s.size = 4) (h : Lz w g o (chunk (strInts s) data ++ rest)) : Lz w g (o + 8) data := by
  have h1 := h.left
  unfold chunk at h1
  have h2 := h1.left.right
  rwa [List.length_append, four_len, strInts_len, hs] at h2
theorem chunk_next {w : World} {g o : Nat} {s : ByteArray} {data rest : List Int} (hs : s.size = 4) (h : Lz w g o (chunk (strInts s) data ++ rest)) : Lz w g (o + (12 + data.length)) rest := by
  have h1 := h.right
  rwa [chunk_len, strInts_len, hs, show 4 + data.length + 8 = 12 + data.length by omega] at h1
theorem FAt.sets {w : World} {B F : Nat} {pl wd hg : Int} {v : Value} (h : FAt w B pl wd hg v) (hne : F ≠ B) (a b c d : Value) : FAt ((((w.setCell ⟨F, 0, none⟩ a).setCell ⟨F, 1, none⟩ b).setCell ⟨F, 2, none⟩ c).setCell ⟨F, 3, none⟩ d) B pl wd hg v := (((h.set hne).set hne).set hne).set hne
set_option maxRecDepth 100000 in
set_option maxHeartbeats 8000000 in
theorem readChunks_any (w : World) (g o n c wide high : Nat) (pd : List Int) (hw : 1 ≤ wide ∧ wide ≤ 36) (hh : 1 ≤ high ∧ high ≤ 36) (hp8 : ∀ z ∈ pd, 0 ≤ z ∧ z ≤ 255) (hn : n = 49 + pd.length) (hn2 : n ≤ 11000) (hc : n ≤ c) (hcm : c ≤ 9223372036854775807) (h : Lz w g o (chunk (strInts sIHDR) (head13 wide high) ++ (chunk (strInts sIDAT) pd ++ (chunk (strInts sIEND) [] ++ [])))) :
    Calls Tryz.prog 23 #[.slice (some ⟨g, o, none⟩) n c] w fun e w' => ∃ v, e = .returned (.tuple #[fileV 4 (wide : Int) (high : Int) v, .int .i64 0]) ∧ Own w' w.heap.size v pd ∧ Nw w w' := by
  obtain ⟨W1, hW1⟩ : ∃ W, w.alloc (.cells #[.int .i64 0, .int .i64 0, .int .i64 0, .slice none 0 0] 46) = W := ⟨_, rfl⟩
  obtain ⟨W2, hW2⟩ : ∃ W, W1.alloc (.cells #[.int .i64 0, .int .i64 0, .int .i64 0, .slice none 0 0] 46) = W := ⟨_, rfl⟩
  have z1 : W1.heap.size = w.heap.size + 1 := by rw [← hW1]; simp
  have z2 : W2.heap.size = w.heap.size + 2 := by rw [← hW2]; simp; omega
  have n1 : Nw w W1 := by rw [← hW1]; exact (Below.refl _ _).alloc (Nat.le_refl _) _
  have n2 : Nw W1 W2 := by rw [← hW2]; exact (Below.refl _ _).alloc (Nat.le_refl _) _
  obtain ⟨F, hF⟩ : ∃ F, w.heap.size + 1 = F := ⟨_, rfl⟩
  have HF : Hid (_ = F) := hF
  have FF : FAt W2 F 0 0 0 (.slice none 0 0) := by
    rw [← hF, ← z1, ← hW2]; exact FAt.new _ _ _ _ _ _
  have FR : Hid (FAt W2 w.heap.size 0 0 0 (.slice none 0 0)) := by
    have h : FAt W1 w.heap.size 0 0 0 (.slice none 0 0) := by rw [← hW1]; exact FAt.new _ _ _ _ _ _
    exact h.nw n2
  have NW : Hid (Nw w W2) := Nw.trans n1 n2
  have q0 := h.nw NW.out
  have q1 := chunk_next (s := sIHDR) rfl q0
  have q2 := chunk_next (s := sIDAT) rfl q1
  have d0 := chunk_data (s := sIHDR) rfl q0
  have d1 := chunk_data (s := sIDAT) rfl q1
  have Q0 : Hid (Lz W2 g o (chunk (strInts sIHDR) (head13 wide high))) := q0.left
  have Q1 : Hid (Lz W2 g (o + 25) (chunk (strInts sIDAT) pd)) := q1.left
  have Q2 : Hid (Lz W2 g (o + (37 + pd.length)) (chunk (strInts sIEND) [])) := by
    have h := q2.left
    rw [head_len, Nat.add_assoc] at h
    rwa [show 12 + 13 + (12 + pd.length) = 37 + pd.length by omega] at h
  have D0 : Hid (Lz W2 g (o + 8) (head13 wide high)) := d0
  have D1 : Hid (Lz W2 g (o + 25 + 8) pd) := d1
  have hg : g < F := by have := h.1; omega
  have HB : Hid (∀ wr zs p, Below F W2 wr → Lz W2 g p zs → Lz wr g p zs) := fun wr zs p k l => ⟨Nat.lt_of_lt_of_le l.1 (Below.size k), fun i hi => (Below.cell k (p := ⟨g, p + i, none⟩) hg).trans (l.2 i hi)⟩
  have hFR : w.heap.size < F := by omega
  have HFW : Hid (W2.heap.size = F + 1) := by show _ = _; omega
  have H8 : Hid _ := hp8
  have h08 : ∀ z ∈ head13 wide high, 0 ≤ z ∧ z ≤ 255 := head_u8 wide high hw.2 hh.2
  have H08 : Hid _ := h08
  have R0 : Hid (RdS W2 F g o n c (wide : Int) (high : Int) pd 0 (.slice (some ⟨g, o, none⟩) n c) (.slice none 0 0) W2) := ⟨FF, Below.refl _ _, (fun _ => rfl), rfl, (fun _ => rfl), (fun h => by omega)⟩
  have HW1 : Hid (_ = W1) := hW1
  have HW2 : Hid (_ = W2) := hW2
  obtain ⟨L, hL⟩ : ∃ L, pd.length = L := ⟨_, rfl⟩
  have HL : Hid (pd.length = L) := hL
  rw [hL] at hn
  have hn3 : n ≤ 49 + L := by omega
  have hn4 : 49 + L ≤ n := by omega
  have hcL : 49 + L ≤ c := by omega
  have HW : Hid _ := hw
  have HH : Hid _ := hh
  clear hn h q0 q1 q2 d0 d1 hW1 hW2 n1 n2 z1 z2 FF h08 hp8 hw hh hL
  go_enter Tryz.func23, Tryz.ntmps23
  go_wp2
  rw [HW1.out, HW2.out]
  go_loopw [0] (fun b wr => ∃ (st : Nat) (v : Value), st ≤ 3 ∧ RdS W2 F g o n c (wide : Int) (high : Int) pd st b v wr) (fun b _ => slLen b)
  case atStart => exact ⟨0, _, by omega, R0.out⟩
  case round =>
    obtain ⟨st, v, hst, hr⟩ := hrel
    clear R0
    rcases (show st = 0 ∨ st = 1 ∨ st = 2 ∨ st = 3 by omega) with rfl | rfl | rfl | rfl
    · obtain ⟨hfile, hbel, hbs, hlen, hearly, hown⟩ := hr
      have hb := hbs (by omega)
      rw [HL.out] at hb
      subst hb
      obtain rfl := hearly (by omega)
      have hf : FAt wr F 0 (0) (0) (.slice none 0 0) := hfile
      have BL : Hid (Below F W2 wr) := hbel
      have hof : ofS L 0 = 0 := rfl
      simp only [hof]
      clear hfile hbs hlen hearly hown hof
      have hsz : F + 1 ≤ wr.heap.size := by have := Below.size hbel; have := HFW.out; omega
      have HFC : Hid _ := firstChunk_any wr g (o) (n) (c) sIHDR (head13 wide high) rfl H08.out (by omega) (by omega) (by omega) (by have := HL.out; (show 13 + 12 ≤ _; omega)) (HB.out wr _ _ hbel Q0.out)
      have HFt : Hid (FAt wr F 0 (0) (0) (.slice none 0 0)) := hf
      obtain ⟨c0, c1, c2, c3, cf⟩ := hf
      clear hbel
      go_wp2_with fail
      refine Calls.mono HFC.out ?_
      clear HFC
      rintro e w1 ⟨q, hq, rfl, k1⟩
      have hlq : (head13 wide high).length = 13 := rfl
      rw [hlq] at hq ⊢
      have hq0 : q = o + 8 := hq.resolve_right (by omega)
      have HQ0 : Hid (q = o + 8) := hq0
      clear hq0
      have N1 : Hid (Nw wr w1) := k1
      obtain ⟨W5, hW5⟩ : ∃ W, w1.alloc (.cells #[.string sIHDR, .slice (some ⟨g, q, none⟩) 13 13] 71) = W := ⟨_, rfl⟩
      have k5 : Nw w1 W5 := by rw [← hW5]; exact (Below.refl _ _).alloc (Nat.le_refl _) _
      have p1 : W5.cell? ⟨w1.heap.size, 1, none⟩ = some (.slice (some ⟨g, q, none⟩) 13 13) := by rw [← hW5]; simp
      have p0 : W5.cell? ⟨w1.heap.size, 0, none⟩ = some (.string sIHDR) := by rw [← hW5]; simp
      have hP : w1.heap.size < W5.heap.size := by rw [← hW5]; simp
      have hPF : F < w1.heap.size := by have := Below.size N1.out; omega
      have N5 : Hid (Nw wr W5) := Nw.trans N1.out k5
      have B5 : Hid (Below F W2 W5) := Below.trans BL.out (Below.mono N5.out (by omega))
      have F5 : FAt W5 F 0 (0) (0) (.slice none 0 0) := HFt.out.nw N5.out
      have HWt : Hid _ := with_head W5 g q wide high HW.out HH.out (by rw [HQ0.out]; exact HB.out W5 _ _ B5.out D0.out)
      have HW5 : Hid (_ = W5) := hW5
      have hZ : W5.cell? ⟨w1.heap.size, 1, none⟩ = some (.slice (some ⟨g, q, none⟩) 13 13) := p1
      have HP1 : Hid _ := hZ
      have HF5 : Hid (FAt W5 F 0 (0) (0) (.slice none 0 0)) := F5
      clear k1 k5 hW5 hZ hq
      have C0 := F5.c0
      have C1 := F5.c1
      have C2 := F5.c2
      have C3 := F5.c3
      go_upto_region 4 with fail
      rw [HW5.out]
      unfold fileV at HWt
      unfold sIHDR at HWt p0
      clear c0 c1 c2 c3 cf F5
      go_wp2_with fail
      refine Calls.mono HWt.out ?_
      clear HWt
      rintro e w6 ⟨rfl, k6⟩
      have N6 : Hid (Nw W5 w6) := k6
      have F6 : FAt w6 F 0 (0) (0) (.slice none 0 0) := HF5.out.nw k6
      have r1 : w6.cell? ⟨w1.heap.size, 1, none⟩ = some (.slice (some ⟨g, q, none⟩) 13 13) := ((bcell k6).1 _ _ hP).trans HP1.out
      have HF6 : Hid (FAt w6 F 0 (0) (0) (.slice none 0 0)) := F6
      obtain ⟨e0, e1, e2, e3, ef⟩ := F6
      clear k6 p0 p1 C0 C1 C2 C3
      have G6 : Hid (FAt ((((w6.setCell ⟨F, 0, none⟩ (.int .i64 1)).setCell ⟨F, 1, none⟩ (.int .i64 (wide : Int))).setCell ⟨F, 2, none⟩ (.int .i64 (high : Int))).setCell ⟨F, 3, none⟩ (.slice none 0 0)) F 1 (wide : Int) (high : Int) (.slice none 0 0)) := HF6.out.store 1 (wide : Int) (high : Int) (.slice none 0 0)
      have B6 : Hid (Below F W2 ((((w6.setCell ⟨F, 0, none⟩ (.int .i64 1)).setCell ⟨F, 1, none⟩ (.int .i64 (wide : Int))).setCell ⟨F, 2, none⟩ (.int .i64 (high : Int))).setCell ⟨F, 3, none⟩ (.slice none 0 0))) := ((((Below.trans B5.out (Below.mono N6.out (by omega))).setCell (Nat.le_refl _) _).setCell (Nat.le_refl _) _).setCell (Nat.le_refl _) _).setCell (Nat.le_refl _) _
      go_wp2
      refine ⟨⟨1, .slice none 0 0, by omega, ⟨G6.out, B6.out, (fun _ => rfl), rfl, (fun _ => rfl), (fun h => by omega)⟩⟩, ?_⟩
      show n - 25 < n - 0
      omega
    · obtain ⟨hfile, hbel, hbs, hlen, hearly, hown⟩ := hr
      have hb := hbs (by omega)
      rw [HL.out] at hb
      subst hb
      obtain rfl := hearly (by omega)
      have hf : FAt wr F 1 ((wide : Int)) ((high : Int)) (.slice none 0 0) := hfile
      have BL : Hid (Below F W2 wr) := hbel
      have hof : ofS L 1 = 25 := rfl
      simp only [hof]
      clear hfile hbs hlen hearly hown hof
      have hsz : F + 1 ≤ wr.heap.size := by have := Below.size hbel; have := HFW.out; omega
      have HFC : Hid _ := firstChunk_any wr g (o + 25) (n - 25) (c - 25) sIDAT (pd) rfl H8.out (by omega) (by omega) (by omega) (by have := HL.out; (show pd.length + 12 ≤ _; omega)) (HB.out wr _ _ hbel Q1.out)
      have HFt : Hid (FAt wr F 1 ((wide : Int)) ((high : Int)) (.slice none 0 0)) := hf
      obtain ⟨c0, c1, c2, c3, cf⟩ := hf
      clear hbel
      go_wp2_with fail
      refine Calls.mono HFC.out ?_
      clear HFC
      rintro e w1 ⟨q, hq, rfl, k1⟩
      have hlq : (pd).length = L := HL.out
      rw [hlq] at hq ⊢
      have N1 : Hid (Nw wr w1) := k1
      obtain ⟨W5, hW5⟩ : ∃ W, w1.alloc (.cells #[.string sIDAT, .slice (some ⟨g, q, none⟩) L L] 71) = W := ⟨_, rfl⟩
      have k5 : Nw w1 W5 := by rw [← hW5]; exact (Below.refl _ _).alloc (Nat.le_refl _) _
      have p1 : W5.cell? ⟨w1.heap.size, 1, none⟩ = some (.slice (some ⟨g, q, none⟩) L L) := by rw [← hW5]; simp
      have p0 : W5.cell? ⟨w1.heap.size, 0, none⟩ = some (.string sIDAT) := by rw [← hW5]; simp
      have hP : w1.heap.size < W5.heap.size := by rw [← hW5]; simp
      have hPF : F < w1.heap.size := by have := Below.size N1.out; omega
      have N5 : Hid (Nw wr W5) := Nw.trans N1.out k5
      have B5 : Hid (Below F W2 W5) := Below.trans BL.out (Below.mono N5.out (by omega))
      have F5 : FAt W5 F 1 ((wide : Int)) ((high : Int)) (.slice none 0 0) := HFt.out.nw N5.out
      have HWt : Hid _ := (by have h := with_data W5 g q (wide : Int) (high : Int) pd (by have := HL.out; omega) (hq.elim (fun e => by rw [e]; exact HB.out W5 _ _ B5.out D1.out) (fun e => ⟨(HB.out W5 _ _ B5.out D1.out).1, fun i hi => absurd hi (by have := HL.out; omega)⟩)); rw [HL.out] at h; exact h)
      have HW5 : Hid (_ = W5) := hW5
      have hZ : W5.cell? ⟨w1.heap.size, 1, none⟩ = some (.slice (some ⟨g, q, none⟩) L L) := p1
      have HP1 : Hid _ := hZ
      have HF5 : Hid (FAt W5 F 1 ((wide : Int)) ((high : Int)) (.slice none 0 0)) := F5
      clear k1 k5 hW5 hZ hq
      have C0 := F5.c0
      have C1 := F5.c1
      have C2 := F5.c2
      have C3 := F5.c3
      go_upto_region 4 with fail
      rw [HW5.out]
      unfold fileV at HWt
      unfold sIDAT at HWt p0
      clear c0 c1 c2 c3 cf F5
      go_wp2_with fail
      refine Calls.mono HWt.out ?_
      clear HWt
      rintro e w6 ⟨vv, rfl, o6, k6⟩
      have N6 : Hid (Nw W5 w6) := k6
      have F6 : FAt w6 F 1 ((wide : Int)) ((high : Int)) (.slice none 0 0) := HF5.out.nw k6
      have r1 : w6.cell? ⟨w1.heap.size, 1, none⟩ = some (.slice (some ⟨g, q, none⟩) L L) := ((bcell k6).1 _ _ hP).trans HP1.out
      obtain ⟨va, vc, hv⟩ := Own.shape o6
      rw [HL.out] at hv
      subst hv
      have O6 : Hid (Own w6 (F + 1) (.slice va L vc) pd) := Own.base o6 (by omega)
      clear o6
      have HF6 : Hid (FAt w6 F 1 ((wide : Int)) ((high : Int)) (.slice none 0 0)) := F6
      obtain ⟨e0, e1, e2, e3, ef⟩ := F6
      clear k6 p0 p1 C0 C1 C2 C3
      have G6 : Hid (FAt ((((w6.setCell ⟨F, 0, none⟩ (.int .i64 2)).setCell ⟨F, 1, none⟩ (.int .i64 (wide : Int))).setCell ⟨F, 2, none⟩ (.int .i64 (high : Int))).setCell ⟨F, 3, none⟩ (.slice va L vc)) F 2 (wide : Int) (high : Int) (.slice va L vc)) := HF6.out.store 2 (wide : Int) (high : Int) (.slice va L vc)
      have B6 : Hid (Below F W2 ((((w6.setCell ⟨F, 0, none⟩ (.int .i64 2)).setCell ⟨F, 1, none⟩ (.int .i64 (wide : Int))).setCell ⟨F, 2, none⟩ (.int .i64 (high : Int))).setCell ⟨F, 3, none⟩ (.slice va L vc))) := ((((Below.trans B5.out (Below.mono N6.out (by omega))).setCell (Nat.le_refl _) _).setCell (Nat.le_refl _) _).setCell (Nat.le_refl _) _).setCell (Nat.le_refl _) _
      have OF : Hid (Own ((((w6.setCell ⟨F, 0, none⟩ (.int .i64 2)).setCell ⟨F, 1, none⟩ (.int .i64 (wide : Int))).setCell ⟨F, 2, none⟩ (.int .i64 (high : Int))).setCell ⟨F, 3, none⟩ (.slice va L vc)) (F + 1) (.slice va L vc) pd) := Own.farB (Own.farB (Own.farB (Own.farB O6.out (by omega)) (by omega)) (by omega)) (by omega)
      go_wp2
      refine ⟨⟨2, .slice va L vc, by omega, ⟨G6.out, B6.out, (fun _ => ?_), ?_, (fun h => by omega), (fun _ => OF.out)⟩⟩, ?_⟩
      · rw [HL.out]
        show Value.slice (some ⟨g, o + 25 + (12 + L), none⟩) (n - 25 - (12 + L)) (c - 25 - (12 + L)) = .slice (some ⟨g, o + (37 + L), none⟩) (n - (37 + L)) (c - (37 + L))
        rw [show o + 25 + (12 + L) = o + (37 + L) by omega, show n - 25 - (12 + L) = n - (37 + L) by omega, show c - 25 - (12 + L) = c - (37 + L) by omega]
      · rw [HL.out]
        show n - 25 - (12 + L) = n - (37 + L)
        omega
      · show n - 25 - (12 + L) < n - 25
        omega
    · obtain ⟨hfile, hbel, hbs, hlen, hearly, hown⟩ := hr
      have hb := hbs (by omega)
      rw [HL.out] at hb
      subst hb
      have o0 := hown (by omega)
      obtain ⟨va, vc, hv⟩ := Own.shape o0
      rw [HL.out] at hv
      subst hv
      have O0 : Hid (Own wr (F + 1) (.slice va L vc) pd) := o0
      clear o0
      have hf : FAt wr F 2 ((wide : Int)) ((high : Int)) (.slice va L vc) := hfile
      have BL : Hid (Below F W2 wr) := hbel
      have hof : ofS L 2 = (37 + L) := rfl
      simp only [hof]
      clear hfile hbs hlen hearly hown hof
      have hsz : F + 1 ≤ wr.heap.size := by have := Below.size hbel; have := HFW.out; omega
      have HFC : Hid _ := firstChunk_any wr g (o + (37 + L)) (n - (37 + L)) (c - (37 + L)) sIEND (([] : List Int)) rfl (fun z hz => by cases hz) (by omega) (by omega) (by omega) (by have := HL.out; (show 0 + 12 ≤ _; omega)) (HB.out wr _ _ hbel (by have h := Q2.out; rwa [HL.out] at h))
      have HFt : Hid (FAt wr F 2 ((wide : Int)) ((high : Int)) (.slice va L vc)) := hf
      obtain ⟨c0, c1, c2, c3, cf⟩ := hf
      clear hbel
      go_wp2_with fail
      refine Calls.mono HFC.out ?_
      clear HFC
      rintro e w1 ⟨q, hq, rfl, k1⟩
      have hlq : (([] : List Int)).length = 0 := rfl
      rw [hlq] at hq ⊢
      have N1 : Hid (Nw wr w1) := k1
      obtain ⟨W5, hW5⟩ : ∃ W, w1.alloc (.cells #[.string sIEND, .slice (some ⟨g, q, none⟩) 0 0] 71) = W := ⟨_, rfl⟩
      have k5 : Nw w1 W5 := by rw [← hW5]; exact (Below.refl _ _).alloc (Nat.le_refl _) _
      have p1 : W5.cell? ⟨w1.heap.size, 1, none⟩ = some (.slice (some ⟨g, q, none⟩) 0 0) := by rw [← hW5]; simp
      have p0 : W5.cell? ⟨w1.heap.size, 0, none⟩ = some (.string sIEND) := by rw [← hW5]; simp
      have hP : w1.heap.size < W5.heap.size := by rw [← hW5]; simp
      have hPF : F < w1.heap.size := by have := Below.size N1.out; omega
      have N5 : Hid (Nw wr W5) := Nw.trans N1.out k5
      have B5 : Hid (Below F W2 W5) := Below.trans BL.out (Below.mono N5.out (by omega))
      have F5 : FAt W5 F 2 ((wide : Int)) ((high : Int)) (.slice va L vc) := HFt.out.nw N5.out
      have HWt : Hid _ := with_end W5 g q (wide : Int) (high : Int) va L vc
      have HW5 : Hid (_ = W5) := hW5
      have hZ : W5.cell? ⟨w1.heap.size, 1, none⟩ = some (.slice (some ⟨g, q, none⟩) 0 0) := p1
      have HP1 : Hid _ := hZ
      have HF5 : Hid (FAt W5 F 2 ((wide : Int)) ((high : Int)) (.slice va L vc)) := F5
      clear k1 k5 hW5 hZ hq
      have C0 := F5.c0
      have C1 := F5.c1
      have C2 := F5.c2
      have C3 := F5.c3
      go_upto_region 4 with fail
      rw [HW5.out]
      unfold fileV at HWt
      unfold sIEND at HWt p0
      clear c0 c1 c2 c3 cf F5
      go_wp2_with fail
      refine Calls.mono HWt.out ?_
      clear HWt
      rintro e w6 ⟨rfl, k6⟩
      have N6 : Hid (Nw W5 w6) := k6
      have F6 : FAt w6 F 2 ((wide : Int)) ((high : Int)) (.slice va L vc) := HF5.out.nw k6
      have r1 : w6.cell? ⟨w1.heap.size, 1, none⟩ = some (.slice (some ⟨g, q, none⟩) 0 0) := ((bcell k6).1 _ _ hP).trans HP1.out
      have O6 : Hid (Own w6 (F + 1) (.slice va L vc) pd) := Own.nw (Own.nw O0.out N5.out) k6
      have HF6 : Hid (FAt w6 F 2 ((wide : Int)) ((high : Int)) (.slice va L vc)) := F6
      obtain ⟨e0, e1, e2, e3, ef⟩ := F6
      clear k6 p0 p1 C0 C1 C2 C3
      have G6 : Hid (FAt ((((w6.setCell ⟨F, 0, none⟩ (.int .i64 4)).setCell ⟨F, 1, none⟩ (.int .i64 (wide : Int))).setCell ⟨F, 2, none⟩ (.int .i64 (high : Int))).setCell ⟨F, 3, none⟩ (.slice va L vc)) F 4 (wide : Int) (high : Int) (.slice va L vc)) := HF6.out.store 4 (wide : Int) (high : Int) (.slice va L vc)
      have B6 : Hid (Below F W2 ((((w6.setCell ⟨F, 0, none⟩ (.int .i64 4)).setCell ⟨F, 1, none⟩ (.int .i64 (wide : Int))).setCell ⟨F, 2, none⟩ (.int .i64 (high : Int))).setCell ⟨F, 3, none⟩ (.slice va L vc))) := ((((Below.trans B5.out (Below.mono N6.out (by omega))).setCell (Nat.le_refl _) _).setCell (Nat.le_refl _) _).setCell (Nat.le_refl _) _).setCell (Nat.le_refl _) _
      have OF : Hid (Own ((((w6.setCell ⟨F, 0, none⟩ (.int .i64 4)).setCell ⟨F, 1, none⟩ (.int .i64 (wide : Int))).setCell ⟨F, 2, none⟩ (.int .i64 (high : Int))).setCell ⟨F, 3, none⟩ (.slice va L vc)) (F + 1) (.slice va L vc) pd) := Own.farB (Own.farB (Own.farB (Own.farB O6.out (by omega)) (by omega)) (by omega)) (by omega)
      go_wp2
      refine ⟨⟨3, .slice va L vc, by omega, ⟨G6.out, B6.out, (fun h => by omega), ?_, (fun h => by omega), (fun _ => OF.out)⟩⟩, ?_⟩
      · rw [HL.out]
        show n - (37 + L) - 12 = n - (49 + L)
        omega
      · show n - (37 + L) - 12 < n - (37 + L)
        omega
    · obtain ⟨hfile, hbel, hbs, hlen, hearly, hown⟩ := hr
      have o0 := hown (by omega)
      obtain ⟨va, vc, hv⟩ := Own.shape o0
      rw [HL.out] at hv
      subst hv
      have O0 : Hid (Own wr (F + 1) (.slice va L vc) pd) := o0
      have hf : FAt wr F 4 (wide : Int) (high : Int) (.slice va L vc) := hfile
      have rr : FAt wr w.heap.size 0 0 0 (.slice none 0 0) := ⟨(hbel.cell (p := ⟨w.heap.size, 0, none⟩) hFR).trans FR.out.c0, (hbel.cell (p := ⟨w.heap.size, 1, none⟩) hFR).trans FR.out.c1, (hbel.cell (p := ⟨w.heap.size, 2, none⟩) hFR).trans FR.out.c2, (hbel.cell (p := ⟨w.heap.size, 3, none⟩) hFR).trans FR.out.c3, fun o => (hbel.frozen (p := ⟨w.heap.size, o, none⟩) hFR).trans (FR.out.fr o)⟩
      have RR : Hid (FAt wr w.heap.size 0 0 0 (.slice none 0 0)) := rr
      have NB : Hid (Nw w wr) := Below.trans NW.out (Below.mono hbel (by omega))
      obtain ⟨c0, c1, c2, c3, cf⟩ := hf
      obtain ⟨d0, d1, d2, d3, df⟩ := rr
      clear hfile hbs hlen hearly hown o0 hbel
      go_wp2
      have kk := RR.out.store 4 (wide : Int) (high : Int) (.slice va L vc)
      have kn := nw_set (u := .slice va L vc) (o := 3) (nw_set (u := .int .i64 (high : Int)) (o := 2) (nw_set (u := .int .i64 (wide : Int)) (o := 1) (nw_set (u := .int .i64 4) (o := 0) NB.out (R := w.heap.size) (Nat.le_refl _)) (R := w.heap.size) (Nat.le_refl _)) (R := w.heap.size) (Nat.le_refl _)) (R := w.heap.size) (Nat.le_refl _)
      have ko := Own.farB (u := .slice va L vc) (o := 3) (b := w.heap.size) (Own.farB (u := .int .i64 (high : Int)) (o := 2) (b := w.heap.size) (Own.farB (u := .int .i64 (wide : Int)) (o := 1) (b := w.heap.size) (Own.farB (u := .int .i64 4) (o := 0) (b := w.heap.size) O0.out (by omega)) (by omega)) (by omega)) (by omega)
      generalize (World.setCell (World.setCell (World.setCell (World.setCell wr ⟨w.heap.size, 0, none⟩ (.int .i64 4)) ⟨w.heap.size, 1, none⟩ (.int .i64 (wide : Int))) ⟨w.heap.size, 2, none⟩ (.int .i64 (high : Int))) ⟨w.heap.size, 3, none⟩ (.slice va L vc)) = X at *
      obtain ⟨k0, k1, k2, k3, kf⟩ := kk
      exact bodyPost_ret (v := .tuple #[.agg #[.int .i64 4, .int .i64 (wide : Int), .int .i64 (high : Int), .slice va L vc], .int .i64 0]) (by simp [results, Tryz.results23, go_sem, k0, k1, k2, k3]) rfl ⟨_, rfl, Own.base ko (by omega), kn⟩
end Go.Proofs.YtaeicgfebeliiaaGreatDoor
namespace Go.Proofs.YtaeicgfebeliiaaGreatDoor
open Go.ChangeShapes Go.WideShapes Go.ChangeAt Go.RowKit
set_option linter.unusedVariables false

theorem goodHead_any (w : World) : Calls Tryz.prog 50 #[.int .i64 120, .int .i64 1] w fun e w' => e = .returned (.bool true) ∧ w' = w := by
  have hb : bits .and .i64 1 32 = 0 := by decide
  go_enter Tryz.func50, Tryz.ntmps50
  go_wp2
  go_ret
  exact ⟨rfl, rfl⟩
theorem nw_dn (w : World) (n : Nat) : Nw w (w.drewN n) := ⟨rfl, rfl, rfl, Nat.le_refl _, fun _ _ => rfl⟩
set_option maxRecDepth 100000 in
set_option maxHeartbeats 8000000 in
theorem unpackRows_any (w : World) (B : Nat) (v : Value) (ds : List Nat) (J wide high : Nat) (hw : 1 ≤ wide ∧ wide ≤ 36) (hh : 1 ≤ high ∧ high ≤ 36) (hd : ds.length = (4 * wide + 1) * high) (h8 : ∀ d ∈ ds, d < 256) (hp8 : ∀ d ∈ bestL ds J, d < 256) (hJ : Ends (ints ds) J) (hT : Tabs w) (ho : Own w B v (pdata ds J)) :
    Calls Tryz.prog 24 #[fileV 4 (wide : Int) (high : Int) v] w fun e w' => ∃ v', e = .returned (.tuple #[v', .bool true]) ∧ Own w' w.heap.size v' (ints ds) ∧ Nw w w' := by
  have hdl : ds.length ≤ 6000 := by
    rw [hd]; exact Nat.le_trans (Nat.mul_le_mul (show 4 * wide + 1 ≤ 145 by omega) hh.2) (by omega)
  have hnb := bestL_len ds J hJ hdl
  have hN : 0 ≤ adler (ints ds) ∧ adler (ints ds) < 4294967296 := adler_bd _
  obtain ⟨N, hNe⟩ : ∃ N, adler (ints ds) = N := ⟨_, rfl⟩
  unfold pdata at ho
  rw [hNe] at ho hN
  obtain ⟨ex, hex, hex8⟩ := nats_of (four N) (four_u8 N hN)
  have hexl : ex.length = 4 := by have := congrArg List.length hex; rw [ints_len] at this; exact this.symm
  obtain ⟨nb, hnbe⟩ : ∃ n, (bestL ds J).length = n := ⟨_, rfl⟩
  rw [hnbe] at hnb
  have hpl : ([120, 1] ++ ints (bestL ds J) ++ four N).length = nb + 6 := by
    rw [List.length_append, List.length_append, ints_len, hnbe, four_len]; simp; omega
  rcases ho.form with ⟨_, e⟩ | ⟨g, c, rfl, hBg, hgs, hA⟩
  · have := congrArg List.length e
    rw [hpl] at this; simp at this
  have hcc : nb + 6 ≤ c ∧ c ≤ 9223372036854775807 := by
    rcases ho.2 with ⟨hn, _⟩ | ⟨g', cap, cur, e1, _, _, e2, e3, _⟩
    · cases hn
    · injection e1 with _ _ e; subst e
      rw [hpl] at e2
      unfold maxLen at e3
      exact ⟨e2, e3⟩
  rw [hpl]
  have L0 : Lz w g 0 ([120, 1] ++ (ints (bestL ds J) ++ four N)) := ⟨hA.1, by have := hA.2.1; rwa [List.append_assoc] at this⟩
  have b0 : w.cell? ⟨g, 0, none⟩ = some (.int .u8 120) := L0.2 0 (by simp)
  have b1 : w.cell? ⟨g, 1, none⟩ = some (.int .u8 1) := L0.2 1 (by simp)
  have L2 : Lz w g 2 (ints (bestL ds J) ++ four N) := L0.right
  have L4 : Lz w g (2 + nb) (four N) := by
    have h := L2.right
    rwa [ints_len, hnbe] at h
  rw [hex, ← ints_app] at L2
  have R8 : Row8 w g 2 (bestL ds J ++ ex) := ⟨L2.1, fun i hi => by
    have h := L2.2 i (by rw [ints_len]; exact hi)
    rwa [ints_get] at h⟩
  obtain ⟨W1, hW1⟩ : ∃ W, w.alloc (.cells #[.int .i64 4, .int .i64 (wide : Int), .int .i64 (high : Int), .slice (some ⟨g, 0, none⟩) (nb + 6) c] 46) = W := ⟨_, rfl⟩
  have n1 : Nw w W1 := by rw [← hW1]; exact (Below.refl _ _).alloc (Nat.le_refl _) _
  have FF : FAt W1 w.heap.size 4 (wide : Int) (high : Int) (.slice (some ⟨g, 0, none⟩) (nb + 6) c) := by rw [← hW1]; exact FAt.new _ _ _ _ _ _
  have a0 : W1.cell? ⟨g, 0, none⟩ = some (.int .u8 120) := ((bcell n1).1 _ _ hgs).trans b0
  have a1 : W1.cell? ⟨g, 1, none⟩ = some (.int .u8 1) := ((bcell n1).1 _ _ hgs).trans b1
  have NW : Hid (Nw w W1) := n1
  have HG : Hid (∀ m, Calls Tryz.prog 50 #[.int .i64 120, .int .i64 1] (W1.drewN m) fun e w' => e = .returned (.bool true) ∧ ∃ m, w' = W1.drewN m) := fun m => (goodHead_any (W1.drewN m)).mono (fun e w' h => ⟨h.1, m, h.2⟩)
  have hbx : (bestL ds J ++ ex).length = nb + 4 := by rw [List.length_append, hnbe, hexl]
  have HU : Hid (∀ W, Nw w W → Calls Tryz.prog 51 #[.slice (some ⟨g, 2, none⟩) (nb + 4) (c - 2)] W (Unp W nb (ints ds))) := fun W k => by
    have h := unpackBx W g 2 (c - 2) ds ex J hJ (hT.below k hT.2.2.2.2) hdl (by omega) h8 hex8 ⟨Nat.lt_of_lt_of_le hgs (Below.size k), fun i hi => ((bcell k).1 _ _ hgs).trans (R8.2 i hi)⟩
    rw [hbx, hnbe] at h
    exact h
  have HNm : Hid (∀ W, Nw w W → Calls Tryz.prog 52 #[.slice (some ⟨g, 0, none⟩) (nb + 6) c, .int .i64 (2 + (nb : Int))] W fun e w' => e = .returned (.int .i64 N) ∧ w' = W) := fun W k => by
    have h := numberAt_any W g 0 (nb + 6) c (2 + nb) N hN (by omega) hcc.1 hcc.2 (by omega) (fun i hi => by rw [Nat.zero_add]; exact (L4.nw k).2 i (by rw [four_len]; exact hi))
    rw [show ((2 + nb : Nat) : Int) = 2 + (nb : Int) by omega] at h
    exact h
  have HAd : Hid (∀ W g2 c2, At W g2 (ints ds) → Calls Tryz.prog 40 #[.slice (some ⟨g2, 0, none⟩) ds.length c2] W fun e w' => e = .returned (.int .u32 N) ∧ w' = W) := fun W g2 c2 a => by
    have h := iadler W (some ⟨g2, 0, none⟩) c2 (ints ds) a.row (by rw [ints_len]; omega) (ints_u8 ds h8)
    rw [ints_len, hNe] at h
    exact h
  have HW1 : Hid (_ = W1) := hW1
  obtain ⟨M, hM⟩ : ∃ M, nb + 6 = M := ⟨_, rfl⟩
  rw [show nb + 4 = M - 2 by omega] at HU
  rw [hM] at HNm FF HW1 hcc ⊢
  have m1 : decide ((M : Int) < 6) = false := by simp; omega
  have m2 : decide (M < 6) = false := by simp; omega
  have m3 : 1 < M := by omega
  have m4 : 2 ≤ M := by omega
  have m7 : 2 < c := by omega
  have m5 : ((nb : Int) != (M : Int) - 6) = false := by simp; omega
  have m6 : (M : Int) - 6 = (nb : Int) := by omega
  have HM6 : Hid _ := m6
  clear m6
  have hNu : IntKind.i64.wrap N = N := by rw [IntKind.wrap_i64]; omega
  have hNN : (N != N) = false := by simp
  have hd0 : 0 < ds.length := by rw [hd]; exact Nat.mul_pos (by omega) (by omega)
  have hmul : ((4 : Int) * (wide : Int) + 1) * (high : Int) = ((ds.length : Nat) : Int) := by rw [hd]; simp
  have HD0 : Hid _ := hd0
  have HMul : Hid _ := hmul
  clear hM hA ho L0 b0 b1 L2 L4 R8 hW1 n1 hT hJ hp8 h8 hex8 hex hexl hpl hnbe hNe hgs hd hmul
  unfold fileV
  go_enter Tryz.func24, Tryz.ntmps24
  obtain ⟨c0, c1, c2, c3, cf⟩ := FF
  go_upto_region 1 with fail
  rw [HW1.out]
  go_wp2_with fail
  go_quiet (first | (go_at_call 50; exact HG.out _))
  go_wp2_with fail
  have NV : Hid (Nw w (W1.drewN nq)) := Nw.trans NW.out (nw_dn _ _)
  refine Calls.mono (HU.out _ NV.out) ?_
  rintro e w3 ⟨v3, rfl, o3, k3⟩
  have N3 : Hid (Nw w w3) := Nw.trans NV.out k3
  have F3 : FAt w3 w.heap.size 4 (wide : Int) (high : Int) (.slice (some ⟨g, 0, none⟩) M c) := FAt.nw (w := W1.drewN nq) ⟨c0, c1, c2, c3, cf⟩ k3
  obtain ⟨d0, d1, d2, d3, df⟩ := F3
  rcases own_ways o3 with ⟨_, e⟩ | ⟨g3, c3', rfl, hA3⟩
  · have := HD0.out; rw [e] at this; exact absurd this (Nat.lt_irrefl _)
  have A3 : Hid (At w3 g3 (ints ds)) := hA3
  have O3 : Hid (Own w3 w.heap.size (.slice (some ⟨g3, 0, none⟩) ds.length c3') (ints ds)) := Own.base o3 (Below.size NV.out)
  clear o3 k3 hA3 c0 c1 c2 c3 cf
  go_wp2_with fail
  refine Calls.mono (HNm.out w3 N3.out) ?_
  rintro e w4 ⟨rfl, rfl⟩
  go_wp2_with fail
  refine Calls.mono (HAd.out w4 g3 c3' A3.out) ?_
  rintro e w5 ⟨rfl, rfl⟩
  go_wp2_with fail
  have hm := HMul.out
  have hw1 : IntKind.i64.wrap (4 * (wide : Int)) = 4 * (wide : Int) := by rw [IntKind.wrap_i64]; omega
  have hw2 : IntKind.i64.wrap (4 * (wide : Int) + 1) = 4 * (wide : Int) + 1 := by rw [IntKind.wrap_i64]; omega
  have hw3 : IntKind.i64.wrap ((4 * (wide : Int) + 1) * (high : Int)) = ((ds.length : Nat) : Int) := by rw [hm, IntKind.wrap_i64]; omega
  have hw4 : IntKind.i64.wrap ((ds.length : Nat) : Int) = ((ds.length : Nat) : Int) := by rw [IntKind.wrap_i64]; omega
  go_quiet (fail)
  go_wp2
  go_returns
  exact ⟨_, rfl, Own.nw O3.out (nw_dn _ _), Nw.trans N3.out (nw_dn _ _)⟩
end Go.Proofs.YtaeicgfebeliiaaGreatDoor
namespace Go.Proofs.YtaeicgfebeliiaaGreatDoor
open Go.ChangeShapes Go.WideShapes Go.ChangeAt Go.RowKit
set_option linter.unusedVariables false

/-- What was filtered comes back. -/
theorem unf_filt (kind : Nat) (zr za : List Int) (h8 : ∀ z ∈ zr, 0 ≤ z ∧ z ≤ 255) : unf kind (filt kind zr za) za = zr := by
  have h := unf_is kind (filt kind zr za) za
  have hf := filt_is kind zr za
  have hl : (unf kind (filt kind zr za) za).length = zr.length := by rw [unf_len, filt_len]
  have main : ∀ n, n ≤ zr.length → ∀ k, k < n → (unf kind (filt kind zr za) za).getD k 0 = zr.getD k 0 := by
    intro n
    induction n with
    | zero => intro _ k hk; exact absurd hk (Nat.not_lt_zero _)
    | succ n ih =>
      intro hn k hk
      by_cases e : k < n
      · exact ih (by omega) k e
      · have e : k = n := by omega
        subst e
        rw [h.2 k (by rw [filt_len]; omega), hf.2 k (by omega)]
        have el : left (unf kind (filt kind zr za) za) k = left zr k := by
          unfold left
          split
          · rfl
          · exact ih (by omega) (k - 4) (by omega)
        rw [el]
        have hb : 0 ≤ zr.getD k 0 ∧ zr.getD k 0 ≤ 255 := by
          rw [show zr.getD k 0 = zr[k]'(by omega) by simp [show k < zr.length by omega]]
          exact h8 _ (List.getElem_mem _)
        generalize guess kind (left zr k) (za.getD k 0) (left za k) = G
        generalize zr.getD k 0 = x at *
        omega
  apply List.ext_getElem hl
  intro i h1 h2
  have := main zr.length (Nat.le_refl _) i h2
  simpa [h1, h2] using this
/-- The picture as far as k rows of it have come back. -/
def pxl (zp : List Int) (size N k : Nat) : List Int := zp.take (k * size) ++ List.replicate (N - k * size) 0
theorem pxl_len (zp : List Int) (size N k : Nat) (hN : zp.length = N) (hk : k * size ≤ N) : (pxl zp size N k).length = N := by
  unfold pxl; rw [List.length_append, List.length_take, List.length_replicate]; omega
theorem pxl_next (zp : List Int) (size N k : Nat) (hN : zp.length = N) (hk : (k + 1) * size ≤ N) : (pxl zp size N k).take (k * size) ++ (rowK zp size k ++ (pxl zp size N k).drop (k * size + size)) = pxl zp size N (k + 1) := by
  have e : (k + 1) * size = k * size + size := by rw [Nat.add_mul, Nat.one_mul]
  have hl : (zp.take (k * size)).length = k * size := by rw [List.length_take]; omega
  unfold pxl rowK
  rw [e, List.take_left' hl, List.take_add, List.append_assoc]
  congr 2
  rw [← List.drop_drop, List.drop_left' hl, List.drop_replicate]
  congr 1; omega
theorem vals_take (zs : List Int) (n : Nat) : (vals zs).take n = vals (zs.take n) := by unfold vals; rw [List.map_take]
theorem vals_drop (zs : List Int) (n : Nat) : (vals zs).drop n = vals (zs.drop n) := by unfold vals; rw [List.map_drop]
theorem made_vals (n : Nat) : madeCells (Value.int .u8 0).cells (n * 1) = (vals (List.replicate n 0)).toArray := by
  apply Array.ext_getElem?
  intro i
  rw [Nat.mul_one]
  by_cases h : i < n <;> simp [madeCells, vals, h, Value.cells, Nat.mod_one]
theorem rowsN_ex (zp : List Int) (size k d : Nat) : ∃ r, rowsN zp size (k + d) = rowsN zp size k ++ r := by
  induction d with
  | zero => exact ⟨[], by simp⟩
  | succ d ih =>
    obtain ⟨r, hr⟩ := ih
    exact ⟨r ++ [(best (rowK zp size (k + d)) (abv zp size (k + d)) : Int)] ++ filt (best (rowK zp size (k + d)) (abv zp size (k + d))) (rowK zp size (k + d)) (abv zp size (k + d)), by
      show rowsN zp size (k + d) ++ [(best (rowK zp size (k + d)) (abv zp size (k + d)) : Int)] ++ filt (best (rowK zp size (k + d)) (abv zp size (k + d))) (rowK zp size (k + d)) (abv zp size (k + d)) = _
      rw [hr]; simp only [List.append_assoc]⟩
theorem rows_at (zp : List Int) (size k n : Nat) (hk : k < n) : ∃ r, rowsN zp size n = rowsN zp size k ++ ([(best (rowK zp size k) (abv zp size k) : Int)] ++ (filt (best (rowK zp size k) (abv zp size k)) (rowK zp size k) (abv zp size k) ++ r)) := by
  obtain ⟨r, hr⟩ := rowsN_ex zp size (k + 1) (n - (k + 1))
  rw [show k + 1 + (n - (k + 1)) = n by omega] at hr
  refine ⟨r, ?_⟩
  rw [hr]
  show rowsN zp size k ++ _ ++ _ ++ _ = _
  simp only [List.append_assoc]
end Go.Proofs.YtaeicgfebeliiaaGreatDoor
namespace Go.Proofs.YtaeicgfebeliiaaGreatDoor
open Go.ChangeShapes Go.WideShapes Go.ChangeAt Go.RowKit
set_option linter.unusedVariables false
set_option linter.unusedSimpArgs false

theorem Lz.lie {w : World} {g o : Nat} {zs : List Int} (h : Lz w g o zs) : Lie w g o zs := ⟨h.1, h.2⟩
theorem lie_nw {w w' : World} {g o : Nat} {zs : List Int} (h : Lie w g o zs) (k : Nw w w') : Lie w' g o zs := ⟨Nat.lt_of_lt_of_le h.1 (Below.size k), fun i hi => ((bcell k).1 _ _ h.1).trans (h.2 i hi)⟩
theorem row_add {w : World} {b : Nat} {zs : List Int} (h : At w b zs) : ∀ j v, (vals zs)[j]? = some v → w.cell? ((⟨b, 0, none⟩ : Addr).add j) = some v := lie_add (At.lie h)
set_option maxRecDepth 100000 in
set_option maxHeartbeats 8000000 in
theorem unfilterRows_any (w : World) (g c wide high n : Nat) (zp : List Int) (hw : 1 ≤ wide ∧ wide ≤ 36) (hh : 1 ≤ high ∧ high ≤ 36) (hz : zp.length = high * (4 * wide)) (h8 : ∀ z ∈ zp, 0 ≤ z ∧ z ≤ 255) (hn : (rowsN zp (4 * wide) high).length = n) (hc : n ≤ c) (hcm : c ≤ 9223372036854775807) (hr : Lz w g 0 (rowsN zp (4 * wide) high)) :
    Calls Tryz.prog 25 #[.int .i64 (wide : Int), .int .i64 (high : Int), .slice (some ⟨g, 0, none⟩) n c] w fun e w' => ∃ P, e = .returned (.tuple #[.slice (some ⟨P, 0, none⟩) zp.length zp.length, .bool true]) ∧ Lz w' P 0 zp ∧ Nw w w' := by
  have hsz : 4 * (wide : Int) = ((4 * wide : Nat) : Int) := by simp
  have hsb : 4 ≤ 4 * wide ∧ 4 * wide ≤ 144 := by omega
  have hok : RowOk (4 * wide) (4 * wide) := ⟨by omega, by omega, by omega, rfl⟩
  obtain ⟨S, hS⟩ : ∃ S, 4 * wide = S := ⟨_, rfl⟩
  rw [hS] at hsz hsb hok hz hn hr
  have hnl : n = high * (S + 1) := by rw [← hn, rowsN_len zp S high (by omega)]
  have hn6 : n ≤ 6000 := by rw [hnl]; exact Nat.le_trans (Nat.mul_le_mul hh.2 (show S + 1 ≤ 145 by omega)) (by omega)
  obtain ⟨N, hN⟩ : ∃ N, zp.length = N := ⟨_, rfl⟩
  have hN6 : N ≤ 6000 := by rw [← hN, hz]; exact Nat.le_trans (Nat.mul_le_mul hh.2 (show S ≤ 145 by omega)) (by omega)
  have hSH : (S : Int) * (high : Int) = (N : Int) := by rw [← hN, hz, Nat.mul_comm]; simp
  have hle : ∀ k, k ≤ high → k * S ≤ N := fun k hk => by rw [← hN, hz]; exact Nat.mul_le_mul hk (Nat.le_refl _)
  have hle2 : ∀ k, k ≤ high → k * (S + 1) ≤ n := fun k hk => by rw [hnl]; exact Nat.mul_le_mul hk (Nat.le_refl _)
  have mk := fun k => run_mk 22 5 (.int .u8 0) 1 1 Tryz.underlying22 (by kernel_rfl) k
  have mkS := mk S (by omega) (by omega)
  have mkN := mk N (by omega) (by omega)
  rw [made_vals] at mkS mkN
  obtain ⟨CS, hCS⟩ : ∃ C, (vals (List.replicate S 0)).toArray = C := ⟨_, rfl⟩
  obtain ⟨CN, hCN⟩ : ∃ C, (vals (List.replicate N 0)).toArray = C := ⟨_, rfl⟩
  rw [hCS] at mkS
  rw [hCN] at mkN
  obtain ⟨W1, hW1⟩ : ∃ W, w.alloc (.cells CS 5) = W := ⟨_, rfl⟩
  obtain ⟨W2, hW2⟩ : ∃ W, W1.alloc (.cells CN 5) = W := ⟨_, rfl⟩
  have z1 : W1.heap.size = w.heap.size + 1 := by rw [← hW1]; simp
  have n1 : Nw w W1 := by rw [← hW1]; exact (Below.refl _ _).alloc (Nat.le_refl _) _
  have n2 : Nw W1 W2 := by rw [← hW2]; exact (Below.refl _ _).alloc (Nat.le_refl _) _
  have NW : Hid (Nw w W2) := Nw.trans n1 n2
  obtain ⟨P, hP⟩ : ∃ P, w.heap.size + 1 = P := ⟨_, rfl⟩
  have hP2 : W2.heap.size = P + 1 := by rw [← hW2]; simp; omega
  have HP2 : Hid _ := hP2
  have HPe : Hid (w.heap.size + 1 = P) := hP
  have A0 : Lie W2 w.heap.size 0 (abv zp S 0) := by
    have e : abv zp S 0 = List.replicate S 0 := by unfold abv; rw [if_pos rfl]
    rw [e]
    have h : Lie W1 w.heap.size 0 (List.replicate S 0) := by
      rw [← hW1]; exact lit_lie w CS 5 _ (by rw [← hCS])
    exact ⟨Nat.lt_of_lt_of_le h.1 (Below.size n2), fun i hi => ((bcell n2).1 _ _ h.1).trans (h.2 i hi)⟩
  have P0 : W2.heap[P]? = some (.cells (vals (pxl zp S N 0)).toArray 5 (0, 0)) := by
    have e : pxl zp S N 0 = List.replicate N 0 := by unfold pxl; simp
    rw [e, hCN, ← hP, ← z1, ← hW2]; exact heap_alloc_new W1 _
  have HA0 : Hid (Lie W2 w.heap.size 0 (abv zp S 0)) := A0
  have HP0 : Hid (W2.heap[P]? = some (.cells (vals (pxl zp S N 0)).toArray 5 (0, 0))) := P0
  have hgP : g < P := by have := hr.1; omega
  have HR : Hid (∀ wr, Below P W2 wr → Lz wr g 0 (rowsN zp S high)) := fun wr k => by
    have h := hr.nw NW.out
    exact ⟨Nat.lt_of_lt_of_le h.1 (Below.size k), fun i hi => (Below.cell k (p := ⟨g, 0 + i, none⟩) hgP).trans (h.2 i hi)⟩
  have HW1 : Hid (_ = W1) := hW1
  have HW2 : Hid (_ = W2) := hW2
  have HLe : Hid _ := hle
  have HLe2 : Hid _ := hle2
  have H8 : Hid _ := h8
  have HN : Hid (zp.length = N) := hN
  have HNL : Hid _ := hnl
  have HZ : Hid (zp.length = high * S) := hz
  have HOk : Hid (RowOk S S) := hok
  have hwP : w.heap.size < P := by omega
  have hS1 : (1 : Int) + (S : Int) = ((S + 1 : Nat) : Int) := by omega
  obtain ⟨S1, hSe⟩ : ∃ S1, S + 1 = S1 := ⟨_, rfl⟩
  rw [hSe] at hS1
  have HSe : Hid (S + 1 = S1) := hSe
  have hw3 : IntKind.i64.wrap ((S : Int) * (high : Int)) = (N : Int) := by rw [hSH, IntKind.wrap_i64]; omega
  have hPne : Hid (W1.heap.size = P) := by show _ = _; omega
  rw [hN]
  clear hr hz hn hN h8 hle hle2 hnl mk hCS hCN hW1 hW2 n1 n2 z1 A0 P0 hP hP2 hS hSe hok
  go_enter Tryz.func25, Tryz.ntmps25
  go_wp2
  rw [HW1.out, HW2.out, HPe.out]
  go_loopw [9, 24] (fun a i wr => ∃ k ba : Nat, k ≤ high ∧ i = .int .i64 (k : Int) ∧ a = .slice (some ⟨ba, 0, none⟩) S S ∧ ba ≠ P ∧ Lie wr ba 0 (abv zp S k) ∧ wr.heap[P]? = some (.cells (vals (pxl zp S N k)).toArray 5 (0, 0)) ∧ Below P W2 wr) (fun _ i _ => high - (intOf i).toNat)
  case atStart => exact ⟨0, _, Nat.zero_le _, rfl, rfl, by omega, HA0.out, HP0.out, Below.refl _ _⟩
  case round =>
    obtain ⟨k, ba, hk, rfl, rfl, hba, hA, hPx, hB⟩ := hrel
    have BL : Hid (Below P W2 wr) := hB
    have HPx : Hid (wr.heap[P]? = some (.cells (vals (pxl zp S N k)).toArray 5 (0, 0))) := hPx
    have HA : Hid (Lie wr ba 0 (abv zp S k)) := hA
    clear HA0 HP0 hPx
    by_cases hlt : k < high
    · have hk1 := HLe2.out (k + 1) hlt
      rw [HSe.out] at hk1
      have hkN := HLe.out (k + 1) hlt
      have hkN0 := HLe.out k hk
      have hkS1 : (k + 1) * S1 = k * S1 + S1 := by rw [Nat.add_mul, Nat.one_mul]
      have hkS : (k + 1) * S = k * S + S := by rw [Nat.add_mul, Nat.one_mul]
      have r1 := irowAt wr g 0 n c k S1 (by have := HSe.out; omega) hk1 (by omega) hc hcm
      rw [Nat.zero_add] at r1
      have hL := HR.out wr hB
      obtain ⟨r, hr⟩ := rows_at zp S k high hlt
      rw [hr] at hL
      have hrl : (rowsN zp S k).length = k * S1 := by rw [rowsN_len zp S k (by rw [HN.out]; exact hkN0), HSe.out]
      have L1 := hL.right
      rw [hrl, Nat.zero_add] at L1
      obtain ⟨q, hq⟩ : ∃ q, k * S1 = q := ⟨_, rfl⟩
      rw [hq] at L1 r1
      have R1 : Hid _ := r1
      have L2 := L1.right.left
      obtain ⟨kd, hkd⟩ : ∃ kd, best (rowK zp S k) (abv zp S k) = kd := ⟨_, rfl⟩
      have hkd4 : kd ≤ 4 := by rw [← hkd]; exact best_le _ _
      rw [hkd] at L1 L2
      have t0 := L1.2 0 (by simp)
      have t0' : wr.cell? ⟨g, q, none⟩ = some (.int .u8 (kd : Int)) := t0
      have hrow8 := rowK_u8 zp S k H8.out
      have hrkl : (rowK zp S k).length = S := rowK_len zp S k (by rw [HN.out]; exact hkN)
      have hal : (abv zp S k).length = S := abv_len zp S k (by rw [HN.out]; exact hkN0)
      have U : Hid (∀ W', Nw wr W' → Calls Tryz.prog 11 #[.int .i64 (kd : Int), .slice (some ⟨g, q + 1, none⟩) (S1 - 1) (S1 - 1), .slice (some ⟨ba, 0, none⟩) S S] W' fun e w' => ∃ g', e = .returned (.tuple #[.slice (some ⟨g', 0, none⟩) S S, .bool true]) ∧ Nw wr w' ∧ wr.heap.size ≤ g' ∧ At w' g' (rowK zp S k)) := fun W' kW => by
        have h := iunfilter W' kd hkd4 g (q + 1) S ba 0 S S (filt kd (rowK zp S k) (abv zp S k)) (abv zp S k) HOk.out (by rw [filt_len]; exact hrkl) hal (Lz.lie (L2.nw kW)) (lie_nw HA.out kW) (filt_u8 _ _ _) (abv_u8 zp S k H8.out)
        rw [unf_filt kd (rowK zp S k) (abv zp S k) hrow8] at h
        rw [show S1 - 1 = S by have := HSe.out; omega]
        exact h.mono (fun e w' ⟨g', e1, k', l, a⟩ => ⟨g', e1, Nw.trans kW k', Nat.le_trans (Below.size kW) l, a⟩)
      have HRk : Hid _ := hrkl
      have HkN : Hid _ := hkN
      have HkN0 : Hid _ := hkN0
      have HkS : Hid _ := hkS
      have h1S : 1 < S1 := by have := HSe.out; omega
      have h0S : 0 < S1 := by omega
      have hlS : 1 ≤ S1 := by omega
      have hlI : (1 : Int) ≤ (S1 : Int) := by omega
      have hkw : IntKind.i64.wrap (kd : Int) = (kd : Int) := by rw [IntKind.wrap_i64]; omega
      have hnS : ¬ S1 = 1 := by omega
      clear hkN hkN0 hkS hkS1 hSH hsz hw3 mkS mkN r1 hq hr hL L1 L2 t0 hkd hrow8 hrkl hal hrl hA hB hk1
      go_wp2_with fail
      refine Calls.mono R1.out ?_
      rintro e w5 ⟨rfl, rfl⟩
      go_wp2_with fail
      -- REGION
      refine wp_region_any (by kernel_rfl) ?_
      change wpAny _ _ _ _ _ _ _ (World.drew _)
      refine wpAny_take (i := 0) (v := ?_) rfl (by kernel_rfl) (by kernel_rfl) (by kernel_rfl) (fun _ _ _ h => h) (Or.inl ⟨by rfl, ?_⟩) ?_
      rotate_left
      · intro w; go_simp; try with_reducible rfl
      simp only [Act.put, List.setIfInBounds_toArray, List.set_cons_zero, List.set_cons_succ]
      refine wpAny_take (i := 1) (v := ?_) rfl (by kernel_rfl) (by kernel_rfl) (by kernel_rfl) (fun _ _ _ h => h) (Or.inl ⟨by rfl, ?_⟩) ?_
      rotate_left
      · intro w; go_simp; try with_reducible rfl
      simp only [Act.put, List.setIfInBounds_toArray, List.set_cons_zero, List.set_cons_succ]
      refine wpAny_take (i := 4) (v := ?_) rfl (by kernel_rfl) (by kernel_rfl) (by kernel_rfl) (fun _ _ _ h => h) (Or.inl ⟨by rfl, ?_⟩) ?_
      rotate_left
      · intro w; go_simp; try with_reducible rfl
      simp only [Act.put, List.setIfInBounds_toArray, List.set_cons_zero, List.set_cons_succ]
      refine wpAny_take (i := 5) (v := ?_) rfl (by kernel_rfl) (by kernel_rfl) (by kernel_rfl) (fun _ _ _ h => h) (Or.inl ⟨by rfl, ?_⟩) ?_
      rotate_left
      · intro w; go_simp; try with_reducible rfl
      simp only [Act.put, List.setIfInBounds_toArray, List.set_cons_zero, List.set_cons_succ]
      refine wpAny_take (i := 6) (v := ?_) rfl (by kernel_rfl) (by kernel_rfl) (by kernel_rfl) (fun _ _ _ h => h) (Or.inl ⟨by rfl, ?_⟩) ?_
      rotate_left
      · intro w; go_simp; try with_reducible rfl
      simp only [Act.put, List.setIfInBounds_toArray, List.set_cons_zero, List.set_cons_succ]
      refine wpAny_ready (rs := [2]) (by kernel_rfl) (by simp) ?_
      refine AllReady.cons rfl (fun K hK => ?_) AllReady.nil
      go_simp
      refine hK _ _ ?_; clear hK K
      refine wpAny_take (i := 3) (v := ?_) rfl (by kernel_rfl) (by kernel_rfl) (by kernel_rfl) (fun _ _ _ h => h) (Or.inl ⟨by rfl, ?_⟩) ?_
      rotate_left
      · intro w; go_simp; try with_reducible rfl
      simp only [Act.put, List.setIfInBounds_toArray, List.set_cons_zero, List.set_cons_succ]
      refine wpAny_ready (rs := [7]) (by kernel_rfl) (by simp) ?_
      refine AllReady.cons rfl (fun K hK => ?_) AllReady.nil
      go_simp
      refine Calls.mono (U.out _ ?_) ?_
      · exact (Below.refl _ _).drew
      rintro e w6 ⟨g6, rfl, n6, hg6, hA6⟩
      have N6 : Hid (Nw w5 w6) := n6
      have A6 : Hid (At w6 g6 (rowK zp S k)) := hA6
      clear n6 hA6
      show K _ _
      refine hK _ _ ?_
      clear hK K
      refine wpAny_take (i := 8) (v := ?_) rfl (by kernel_rfl) (by kernel_rfl) (by kernel_rfl) (fun _ _ _ h => h) (Or.inl ⟨by rfl, ?_⟩) ?_
      rotate_left
      · intro w; go_simp; try with_reducible rfl
      simp only [Act.put, List.setIfInBounds_toArray, List.set_cons_zero, List.set_cons_succ]
      refine wpAny_take (i := 9) (v := ?_) rfl (by kernel_rfl) (by kernel_rfl) (by kernel_rfl) (fun _ _ _ h => h) (Or.inl ⟨by rfl, ?_⟩) ?_
      rotate_left
      · intro w; go_simp; try with_reducible rfl
      simp only [Act.put, List.setIfInBounds_toArray, List.set_cons_zero, List.set_cons_succ]
      refine wpAny_take (i := 10) (v := ?_) rfl (by kernel_rfl) (by kernel_rfl) (by kernel_rfl) (fun _ _ _ h => h) (Or.inl ⟨by rfl, ?_⟩) ?_
      rotate_left
      · intro w; go_simp; try with_reducible rfl
      simp only [Act.put, List.setIfInBounds_toArray, List.set_cons_zero, List.set_cons_succ]
      refine wpAny_take (i := 11) (v := ?_) rfl (by kernel_rfl) (by kernel_rfl) (by kernel_rfl) (fun _ _ _ h => h) (Or.inl ⟨by rfl, ?_⟩) ?_
      rotate_left
      · intro w; go_simp; try with_reducible rfl
      simp only [Act.put, List.setIfInBounds_toArray, List.set_cons_zero, List.set_cons_succ]
      refine wpAny_take (i := 12) (v := ?_) rfl (by kernel_rfl) (by kernel_rfl) (by kernel_rfl) (fun _ _ _ h => h) (Or.inl ⟨by rfl, ?_⟩) ?_
      rotate_left
      · intro w; go_simp; try with_reducible rfl
      simp only [Act.put, List.setIfInBounds_toArray, List.set_cons_zero, List.set_cons_succ]
      refine wpAny_done (by kernel_rfl) ?_ _
      -- ENDREGION
      have R2 : Hid _ := irowAt w6 P 0 N N k S (by omega) HkN.out (by omega) (Nat.le_refl _) (by omega)
      have hPl : P < w5.heap.size := by have := Below.size BL.out; have := HP2.out; omega
      have HX6 : Hid (w6.heap[P]? = some (.cells (vals (pxl zp S N k)).toArray 5 (0, 0))) := (Below.block N6.out P hPl).trans HPx.out
      have hx6 := HX6.out
      have B6 : Hid (Below P W2 w6) := Below.trans BL.out (Below.mono N6.out (by omega))
      have hsrc : ∀ j v, (vals (rowK zp S k))[j]? = some v → w6.cell? ((⟨g6, 0, none⟩ : Addr).add j) = some v := row_add A6.out
      have hvl : (vals (rowK zp S k)).length = S := by rw [vals_len, HRk.out]
      have hfit : k * S + (vals (rowK zp S k)).length ≤ (vals (pxl zp S N k)).toArray.size := by
        have e : (vals (pxl zp S N k)).toArray.size = N := by
          show (vals (pxl zp S N k)).length = N
          rw [vals_len, pxl_len zp S N k HN.out HkN0.out]
        have h1 := HkN.out
        have h2 := HkS.out
        omega
      have Hsrc : Hid _ := hsrc
      have Hvl : Hid _ := hvl
      have Hfit : Hid _ := hfit
      clear hsrc hvl hfit
      have hinf : (Tryz.prog.info? 5).map (·.size) = some 1 := by kernel_rfl
      have hmin : (vals (rowK zp S k)).length = Nat.min S S := by rw [Hvl.out]; exact (Nat.min_self S).symm
      have hcp := run_copy_row (P := Tryz.prog) w6 22 22 3 5 P (k * S) S S ⟨g6, 0, none⟩ S S _ 5 (vals (rowK zp S k)) Tryz.underlying22 hinf hx6 hmin Hsrc.out Hfit.out (vals_one _)
      have hnew := setRow_heap w6 P _ ((vals (pxl zp S N k)).toArray.toList.take (k * S) ++ (vals (rowK zp S k) ++ (vals (pxl zp S N k)).toArray.toList.drop (k * S + (vals (rowK zp S k)).length))).toArray 5 (0, 0) hx6
      have hval : (vals (pxl zp S N k)).toArray.toList.take (k * S) ++ (vals (rowK zp S k) ++ (vals (pxl zp S N k)).toArray.toList.drop (k * S + (vals (rowK zp S k)).length)) = vals (pxl zp S N (k + 1)) := by
        rw [Hvl.out]
        show (vals (pxl zp S N k)).take (k * S) ++ (vals (rowK zp S k) ++ (vals (pxl zp S N k)).drop (k * S + S)) = _
        rw [vals_take, vals_drop, ← vals_append, ← vals_append, pxl_next zp S N k HN.out HkN.out]
      have hb := below_setRow B6.out (Nat.le_refl P) ((vals (pxl zp S N k)).toArray.toList.take (k * S) ++ (vals (rowK zp S k) ++ (vals (pxl zp S N k)).toArray.toList.drop (k * S + (vals (rowK zp S k)).length))).toArray
      have hg6P : g6 ≠ P := by omega
      have hlie : Lie (w6.setRow P ((vals (pxl zp S N k)).toArray.toList.take (k * S) ++ (vals (rowK zp S k) ++ (vals (pxl zp S N k)).toArray.toList.drop (k * S + (vals (rowK zp S k)).length))).toArray) g6 0 (abv zp S (k + 1)) := by
        have e : abv zp S (k + 1) = rowK zp S k := by unfold abv; rw [if_neg (by omega)]; rfl
        rw [e]
        exact ⟨by rw [setRow_size]; exact A6.out.1, fun i hi => (cell_setRow_other w6 P _ ⟨g6, 0 + i, none⟩ hg6P).trans (A6.out.2.1 i hi)⟩
      rw [hval] at hnew hb hlie
      rw [List.append_assoc, hval, Hvl.out] at hcp
      generalize w6.setRow P (vals (pxl zp S N (k + 1))).toArray = W8 at *
      have HNw : Hid _ := hnew
      have HB8 : Hid (Below P W2 W8) := hb
      have HL8 : Hid (Lie W8 g6 0 (abv zp S (k + 1))) := hlie
      clear hnew hval hb hlie hx6 hmin
      go_wp2_with fail
      refine Calls.mono R2.out ?_
      rintro e w7 ⟨rfl, rfl⟩
      go_wp2
      go_roundw
      case rel => exact ⟨k + 1, g6, hlt, by go_num, rfl, hg6P, HL8.out, HNw.out, HB8.out⟩
      case measure => simp [intOf]; omega
    · have e : k = high := by omega
      subst e
      have hNk : k * S = N := by rw [← HN.out, HZ.out]
      have hpx : pxl zp S N k = zp := by
        unfold pxl
        rw [hNk, Nat.sub_self, List.replicate_zero, List.append_nil, ← HN.out, List.take_length]
      have hx := HPx.out
      rw [hpx] at hx
      have hq : Lz wr P 0 zp := by
        refine ⟨?_, fun i hi => ?_⟩
        · by_cases h : P < wr.heap.size
          · exact h
          · rw [Array.getElem?_eq_none (by omega)] at hx; cases hx
        · rw [cell_of_row wr P (0 + i) _ _ _ hx, Nat.zero_add]
          simp [vals, hi]
      have HQ : Hid (Lz wr P 0 zp) := hq
      have NB : Hid (Nw w wr) := Below.trans NW.out (Below.mono BL.out (by omega))
      clear hNk hpx hx hq hA hB
      go_wp2
      go_ret2
      exact ⟨P, rfl, HQ.out, NB.out⟩
end Go.Proofs.YtaeicgfebeliiaaGreatDoor

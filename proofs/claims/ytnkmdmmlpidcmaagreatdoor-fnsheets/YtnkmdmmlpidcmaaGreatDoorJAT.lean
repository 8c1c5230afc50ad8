/-
  The specification's draw of a sheet: its walk; each theorem names its conditions.
  What the specification draws for the law on sheets: a sheet, a selector; each theorem names its conditions.
  A rune held against the bytes that no value has; each theorem names its conditions.
  A value held against the bytes that no value has, by the library; each theorem names its conditions.
-/
import Derived.Test.YtnkmdmmlpidcmaaGreatDoorJAS
import Derived.Test.YtnkmdmmlpidcmaaGreatDoorJAO
import Derived.Test.YtnkmdmmlpidcmaaGreatDoorJAE
import Derived.Lib.TrimU
import Derived.Lib.DecodeN
namespace Go.Proofs.YtnkmdmmlpidcmaaGreatDoor
open Go.ChangeShapes Go.WideShapes Go.ChangeAt Go.RowKit
set_option linter.unusedVariables false

set_option maxRecDepth 100000 in
set_option maxHeartbeats 16000000 in
theorem sheetOf_any (w : World) (B : Nat) (ca : Option Addr) (len cap n : Nat) (hl : len ≤ 9223372036854775807) (hn : n ≤ 100000) (hc : Cur w B ca len cap n) (hd : Code w B ca len) :
    Calls Tryz.prog 25 #[.pointer (some ⟨B, 0, none⟩)] w fun e w' => SheetDrawn w w' e ∧ Gr B w w' := by
  have hB := hc.lt
  have HB : Hid (B < w.heap.size) := hB
  have HC0 : Hid (Cur w B ca len cap n) := hc
  have DC : Hid (∀ w', Gr B w w' → Code w' B ca len) := fun w' h => Code.below hd (h.below (by omega))
  clear hc hd hB
  go_enter Tryz.func25, Tryz.ntmps25
  go_wp2_with fail
  refine (pick_any w B ca len cap n 5 hl (by omega) (by omega) (by omega) HC0.out (DC.out _ (Gr.refl _ _))).mono ?_
  rintro e w1 ⟨v, rfl, v0, v1, hc1, hb1⟩
  have G1 : Hid (Gr B w w1) := Gr.of_sel hb1
  have C1 : Hid (Cur w1 B ca len cap (n + 2)) := hc1
  obtain ⟨m, rfl⟩ := Int.eq_ofNat_of_zero_le v0
  have hm2 : m ≤ 4 := by omega
  clear hc1 hb1 v0 v1 HC0
  go_wp2
  go_loopw [3, 4] (fun v i wr => ∃ (k : Nat) (els : List (El RD)), i = .int .i64 (k : Int) ∧ els.length + k ≤ 4 ∧ bulkRs (els.map El.x) ≤ 4000 * els.length ∧ RowO 32 2 ERule wr w.heap.size v els ∧ Cur wr B ca len cap (n + 2 + 320 * els.length) ∧ Gr B w wr) (fun _ i _ => (intOf i).toNat)
  case atStart => exact ⟨m, [], rfl, by simpa using hm2, by simp [bulkRs], RowO.nil _ _ _ _ _, C1.out, G1.out⟩
  case round =>
    obtain ⟨k, els, rfl, hk, hbk, hro, hcr, hgr⟩ := hrel
    obtain ⟨va, vc, hv⟩ := hro.slice
    subst hv
    have HR : Hid (RowO 32 2 ERule wr w.heap.size (.slice va els.length vc) els) := hro
    have CR : Hid (Cur wr B ca len cap (n + 2 + 320 * els.length)) := hcr
    have GR : Hid (Gr B w wr) := hgr
    have HZ : Hid (w.heap.size ≤ wr.heap.size) := hgr.size
    have HBR : Hid (B < wr.heap.size) := hcr.lt
    clear hro hcr hgr
    generalize hwr : wr = wo at *
    clear hwr wr
    by_cases hk0 : 0 < k
    · have dk : decide ((0 : Int) < (k : Int)) = true := by simp; omega
      obtain ⟨k2, hk2⟩ : ∃ k2, k = k2 + 1 := ⟨k - 1, by omega⟩
      subst hk2
      obtain ⟨WB, hWB⟩ : ∃ WB, wo.alloc (.cells #[.slice none 0 0, .slice none 0 0] 32) = WB := ⟨_, rfl⟩
      have X0 : Hid (Bx WB wo.heap.size (.slice none 0 0) (.slice none 0 0)) := by show Bx _ _ _ _; rw [← hWB]; exact Bx.alloc wo _ _
      have CB : Hid (Cur WB B ca len cap (n + 2 + 320 * els.length)) := by show Cur _ _ _ _ _ _; rw [← hWB]; exact CR.out.alloc _ _
      have GB : Hid (Gr B wo WB) := by show Gr _ _ _; rw [← hWB]; exact (Gr.refl _ _).alloc _
      have HWB : Hid (_ = WB) := hWB
      have HNB : Hid (wo.heap.size ≠ B) := by show _ ≠ _; have := HBR.out; omega
      have DR : Hid (∀ w', Gr B wo w' → Code w' B ca len) := fun w' h => DC.out w' (GR.out.trans h)
      clear hWB
      go_wp2_with fail
      rw [HWB.out]
      refine (pick_any WB B ca len cap (n + 2 + 320 * els.length) 2 hl (by omega) (by omega) (by omega) CB.out (DR.out _ GB.out)).mono ?_
      rintro e w3 ⟨v, rfl, v0, v1, hc3, hb3⟩
      have X3 : Hid (Bx w3 wo.heap.size (.slice none 0 0) (.slice none 0 0)) := X0.out.gr (Gr.of_sel hb3) HNB.out
      have C3 : Hid (Cur w3 B ca len cap (n + 2 + 320 * els.length + 2)) := hc3
      have G3 : Hid (Gr B wo w3) := GB.out.trans (Gr.of_sel hb3)
      have HB3 : Hid (B < w3.heap.size) := hc3.lt
      have HR3 : Hid (wo.heap.size < w3.heap.size) := X3.out.lt
      obtain ⟨m1, rfl⟩ := Int.eq_ofNat_of_zero_le v0
      have hm3 : m1 ≤ 1 := by omega
      clear hc3 hb3 v0 v1 X0 CB GB HWB
      go_wp2
      go_loopw [6] (fun i wx => ∃ (q : Nat) (u1 : Value) (es : List (El (List PD))), i = .int .i64 (q : Int) ∧ es.length + q ≤ 2 ∧ bulkSS (es.map El.x) ≤ 1206 * es.length ∧ Bx wx wo.heap.size u1 (.slice none 0 0) ∧ RowO 34 1 ESel wx w3.heap.size u1 es ∧ Cur wx B ca len cap (n + 4 + 320 * els.length + 126 * es.length) ∧ Gr B wo wx ∧ w3.heap.size ≤ wx.heap.size) (fun i _ => (intOf i).toNat)
      case atStart => exact ⟨1 + m1, .slice none 0 0, [], by go_num, by simp; omega, by simp [bulkSS], X3.out, RowO.nil _ _ _ _ _, C3.out.mono (by simp; omega), G3.out, Nat.le_refl _⟩
      case round =>
        obtain ⟨q, u1, es, rfl, hq, hbq, hbx, hro, hcx, hgx, hzx⟩ := hrel
        have X5 : Hid (Bx wr wo.heap.size u1 (.slice none 0 0)) := hbx
        have R5 : Hid (RowO 34 1 ESel wr w3.heap.size u1 es) := hro
        have C5 : Hid (Cur wr B ca len cap (n + 4 + 320 * els.length + 126 * es.length)) := hcx
        have G5 : Hid (Gr B wo wr) := hgx
        have Z5 : Hid (w3.heap.size ≤ wr.heap.size) := hzx
        clear hbx hro hcx hgx hzx
        generalize hwr : wr = wi at *
        clear hwr wr
        by_cases hq0 : 0 < q
        · have dq : decide ((0 : Int) < (q : Int)) = true := by simp; omega
          obtain ⟨q2, hq2⟩ : ∃ q2, q = q2 + 1 := ⟨q - 1, by omega⟩
          subst hq2
          go_wp2_with fail
          refine DS.run ⟨B, wo.heap.size, w3.heap.size, ca, len, cap, n + 4 + 320 * els.length + 126 * es.length, u1, .slice none 0 0, es, wi.drew, _⟩ ⟨HB3.out, HR3.out, HNB.out, Z5.out, R5.out.nw ESel.kept ⟨rfl, rfl, rfl, Nat.le_refl _, fun _ _ => rfl⟩, by show es.length ≤ _; omega, X5.out, fun w' h => DR.out _ (Gr.trans G5.out (Gr.like h rfl rfl rfl rfl)), hl, by show n + 4 + 320 * els.length + 126 * es.length ≤ _; omega, rfl, rfl, rfl⟩ wi ⟨Gr.refl _ _, by exact C5.out⟩ ?_
          rintro γ w7 ⟨l, ua, uc, w8, w9, ⟨hl1, hl2⟩, h3, h4, hg1, hc1, rfl⟩
          simp only at hl1 hl2 h3 h4 hg1 hc1
          have GI : Hid (Gr B wi w8) := Gr.like hg1 rfl rfl rfl rfl
          have hoP : u1.ownBlock ≠ some wo.heap.size := fun e => by have := (R5.out.lt _ e).1; have := HR3.out; omega
          have hoB : u1.ownBlock ≠ some B := fun e => by have := (R5.out.lt _ e).1; have := HB3.out; omega
          have X10 : Hid (Bx (w9.setCell ⟨wo.heap.size, 0, none⟩ (γ 2)) wo.heap.size (γ 2) (.slice none 0 0)) := (Bx.ext (X5.out.gr GI.out HNB.out) h4 hoP).set (γ 2)
          have R10 : Hid (RowO 34 1 ESel (w9.setCell ⟨wo.heap.size, 0, none⟩ (γ 2)) w3.heap.size (γ 2) (es ++ [⟨l, [.slice ua l.length uc], iv wi.drew w8⟩])) := RowO.setB ESel.kept h3 HR3.out 0 _
          have C10 : Hid (Cur (w9.setCell ⟨wo.heap.size, 0, none⟩ (γ 2)) B ca len cap (n + 4 + 320 * els.length + 126 * es.length + 126)) := (hc1.ext h4 hoB).set HNB.out _ _
          have G10 : Hid (Gr B wo (w9.setCell ⟨wo.heap.size, 0, none⟩ (γ 2))) := ((G5.out.trans GI.out).ext h4 (fun g e => by have := (R5.out.lt g e).1; have := HR3.out; omega)).set (Nat.le_refl _) _ _
          have Z10 : Hid (w3.heap.size ≤ (w9.setCell ⟨wo.heap.size, 0, none⟩ (γ 2)).heap.size) := by
            show _ ≤ _
            have h1 := Z5.out
            have h2 := GI.out.size
            have h3 := h4.size
            simp [World.setCell]
            omega
          have HLB : Hid (bulkX l ≤ 1206) := by show _ ≤ _; unfold bulkX; omega
          clear h3 h4 hg1 hc1 hoP hoB hl1 hl2
          simp only [Act.put, List.setIfInBounds_toArray, List.set_cons_zero, List.set_cons_succ]
          generalize iv wi.drew w8 = Fe at *
          generalize hW9 : w9.setCell ⟨wo.heap.size, 0, none⟩ (γ 2) = W9 at *
          clear hW9
          generalize γ 2 = v9 at *
          generalize γ 0 = g0 at *
          generalize γ 1 = g1 at *
          generalize γ 3 = g3 at *
          go_wp2
          go_roundw
          case rel => exact ⟨q2, v9, _, by go_num, by simp; omega, by rw [map_snoc, bulkSS_snoc]; have := HLB.out; simp; omega, X10.out, R10.out, C10.out.mono (by simp; omega), G10.out, Z10.out⟩
          case measure => simp [intOf]
        · have hq1 : q = 0 := by omega
          subst hq1
          have he2 : es.length ≤ 2 := by omega
          obtain ⟨ua, uc, hu⟩ := R5.out.slice
          subst hu
          have M5 : Hid (RowM 1 ESel wi (.slice ua es.length uc) (es.map El.x) (iv w3 wi)) := RowO.row R5.out (fun b h1 h2 => ⟨h1, h2⟩)
          obtain ⟨sels, hsels⟩ : ∃ sels, es.map El.x = sels := ⟨_, rfl⟩
          have hsl : sels.length = es.length := by rw [← hsels]; simp
          rw [hsels] at M5 hbq
          have HBQ : Hid (sels.length ≤ 2 ∧ bulkSS sels ≤ 2412) := ⟨by omega, by omega⟩
          generalize es.length = ne at *
          have HNE : Hid (sels.length = ne) := hsl
          clear hsels hsl hbq R5
          go_wp2_with fail
          refine (pick_any wi B ca len cap _ 4 hl (by omega) (by omega) (by omega) C5.out (DR.out _ G5.out)).mono ?_
          rintro e w11 ⟨v, rfl, v0, v1, hc11, hb11⟩
          have X11 : Hid (Bx w11 wo.heap.size (.slice ua ne uc) (.slice none 0 0)) := X5.out.gr (Gr.of_sel hb11) HNB.out
          have C11 : Hid (Cur w11 B ca len cap (n + 258 + 320 * els.length)) := hc11.mono (by omega)
          have G11 : Hid (Gr B wo w11) := G5.out.trans (Gr.of_sel hb11)
          have M11 : Hid (RowM 1 ESel w11 (.slice ua ne uc) sels (iv w3 wi)) := M5.out.kept ESel.kept (Wr.gr (Gr.of_sel hb11)) (fun b hb e => by have := hb.1; have := HB3.out; omega)
          have ZI : Hid (wi.heap.size ≤ w11.heap.size) := (Gr.of_sel hb11).size
          have HB11 : Hid (B < w11.heap.size) := hc11.lt
          have HR11 : Hid (wo.heap.size < w11.heap.size) := X11.out.lt
          have Z311 : Hid (w3.heap.size ≤ w11.heap.size) := Nat.le_trans Z5.out (Gr.of_sel hb11).size
          obtain ⟨m4, rfl⟩ := Int.eq_ofNat_of_zero_le v0
          have hm5 : m4 ≤ 3 := by omega
          clear hc11 hb11 v0 v1 X5 C5 G5 M5
          go_wp2
          go_loopw [7] (fun i wx => ∃ (q : Nat) (u2 : Value) (ds : List (El DD)), i = .int .i64 (q : Int) ∧ ds.length + q ≤ 3 ∧ bulkDs (ds.map El.x) ≤ 100 * ds.length ∧ Bx wx wo.heap.size (.slice ua ne uc) u2 ∧ RowM 1 ESel wx (.slice ua ne uc) sels (iv w3 wi) ∧ RowO 36 3 EDecl wx w11.heap.size u2 ds ∧ Cur wx B ca len cap (n + 258 + 320 * els.length + 20 * ds.length) ∧ Gr B wo wx ∧ w11.heap.size ≤ wx.heap.size) (fun i _ => (intOf i).toNat)
          case atStart => exact ⟨m4, .slice none 0 0, [], by go_num, by simp; omega, by simp [bulkDs], X11.out, M11.out, RowO.nil _ _ _ _ _, C11.out.mono (by simp), G11.out, Nat.le_refl _⟩
          case round =>
            obtain ⟨q, u2, ds, rfl, hq, hbq, hbx, hmx, hro, hcx, hgx, hzx⟩ := hrel
            have X5 : Hid (Bx wr wo.heap.size (.slice ua ne uc) u2) := hbx
            have M5 : Hid (RowM 1 ESel wr (.slice ua ne uc) sels (iv w3 wi)) := hmx
            have R5 : Hid (RowO 36 3 EDecl wr w11.heap.size u2 ds) := hro
            have C5 : Hid (Cur wr B ca len cap (n + 258 + 320 * els.length + 20 * ds.length)) := hcx
            have G5 : Hid (Gr B wo wr) := hgx
            have Z5' : Hid (w11.heap.size ≤ wr.heap.size) := hzx
            clear hbx hmx hro hcx hgx hzx
            generalize hwr : wr = wj at *
            clear hwr wr
            by_cases hq0 : 0 < q
            · have dq : decide ((0 : Int) < (q : Int)) = true := by simp; omega
              obtain ⟨q2, hq2⟩ : ∃ q2, q = q2 + 1 := ⟨q - 1, by omega⟩
              subst hq2
              go_wp2_with fail
              refine DT.run ⟨B, wo.heap.size, w11.heap.size, ca, len, cap, n + 258 + 320 * els.length + 20 * ds.length, u2, .slice ua ne uc, ds, wj.drew, _⟩ ⟨HB11.out, HR11.out, HNB.out, Z5'.out, R5.out.nw EDecl.kept ⟨rfl, rfl, rfl, Nat.le_refl _, fun _ _ => rfl⟩, by show ds.length ≤ _; omega, X5.out, fun w' h => DR.out _ (Gr.trans G5.out (Gr.like h rfl rfl rfl rfl)), hl, by show n + 258 + 320 * els.length + 20 * ds.length ≤ _; omega, rfl, rfl, rfl⟩ wj ⟨Gr.refl _ _, by exact C5.out⟩ ?_
              rintro γ w7 ⟨d, w8, w9, hd1, h3, h4, hg1, hc1, rfl⟩
              simp only at hd1 h3 h4 hg1 hc1
              have GI : Hid (Gr B wj w8) := Gr.like hg1 rfl rfl rfl rfl
              have hoP : u2.ownBlock ≠ some wo.heap.size := fun e => by have := (R5.out.lt _ e).1; have := HR11.out; omega
              have hoB : u2.ownBlock ≠ some B := fun e => by have := (R5.out.lt _ e).1; have := HB11.out; omega
              have X10 : Hid (Bx (w9.setCell ⟨wo.heap.size, 1, none⟩ (γ 2)) wo.heap.size (.slice ua ne uc) (γ 2)) := (Bx.ext (X5.out.gr GI.out HNB.out) h4 hoP).set1 (γ 2)
              have R10 : Hid (RowO 36 3 EDecl (w9.setCell ⟨wo.heap.size, 1, none⟩ (γ 2)) w11.heap.size (γ 2) (ds ++ [⟨d, [.string d.nm, .string d.vl, .bool d.im], iv wj.drew w8⟩])) := RowO.setB EDecl.kept h3 HR11.out 1 _
              have C10 : Hid (Cur (w9.setCell ⟨wo.heap.size, 1, none⟩ (γ 2)) B ca len cap (n + 258 + 320 * els.length + 20 * ds.length + 20)) := (hc1.ext h4 hoB).set HNB.out _ _
              have G10 : Hid (Gr B wo (w9.setCell ⟨wo.heap.size, 1, none⟩ (γ 2))) := ((G5.out.trans GI.out).ext h4 (fun g e => by have := (R5.out.lt g e).1; have := HR11.out; omega)).set (Nat.le_refl _) _ _
              have W10 : Hid (Wr (fun b => b = B ∨ b = wo.heap.size ∨ w11.heap.size ≤ b) wj (w9.setCell ⟨wo.heap.size, 1, none⟩ (γ 2))) := by
                show Wr _ _ _
                exact Wr.set (F := fun b => b = B ∨ b = wo.heap.size ∨ w11.heap.size ≤ b) (((Wr.gr GI.out).mono (fun x e => Or.inl e)).trans (Wr.ext h4 (fun x e => Or.inr (Or.inr (R5.out.lt x e).1)))) (g := wo.heap.size) (Or.inr (Or.inl rfl)) _ _
              have M10 : Hid (RowM 1 ESel (w9.setCell ⟨wo.heap.size, 1, none⟩ (γ 2)) (.slice ua ne uc) sels (iv w3 wi)) := M5.out.kept ESel.kept W10.out (fun b hb e => by
                have h1 := hb.1
                have h2 := hb.2
                have h3 := HB3.out
                have h4 := HR3.out
                have h5 := ZI.out
                omega)
              have Z10 : Hid (w11.heap.size ≤ (w9.setCell ⟨wo.heap.size, 1, none⟩ (γ 2)).heap.size) := by
                show _ ≤ _
                have h1 := Z5'.out
                have h2 := GI.out.size
                have h3 := h4.size
                simp [World.setCell]
                omega
              have HLB : Hid (bulkD d ≤ 100) := hd1
              clear h3 h4 hg1 hc1 hoP hoB hd1 W10
              simp only [Act.put, List.setIfInBounds_toArray, List.set_cons_zero, List.set_cons_succ]
              generalize iv wj.drew w8 = Fe at *
              generalize hW9 : w9.setCell ⟨wo.heap.size, 1, none⟩ (γ 2) = W9 at *
              clear hW9
              generalize γ 2 = v9 at *
              generalize γ 0 = g0 at *
              generalize γ 1 = g1 at *
              generalize γ 3 = g3 at *
              go_wp2
              go_roundw
              case rel => exact ⟨q2, v9, _, by go_num, by simp; omega, by rw [map_snoc, bulkDs_snoc]; have := HLB.out; simp; omega, X10.out, M10.out, R10.out, C10.out.mono (by simp; omega), G10.out, Z10.out⟩
              case measure => simp [intOf]
            · have hq1 : q = 0 := by omega
              subst hq1
              obtain ⟨da, dc, hd⟩ := R5.out.slice
              subst hd
              have MD : Hid (RowM 3 EDecl wj (.slice da ds.length dc) (ds.map El.x) (iv w11 wj)) := RowO.row R5.out (fun b h1 h2 => ⟨h1, h2⟩)
              obtain ⟨decls, hdecls⟩ : ∃ decls, ds.map El.x = decls := ⟨_, rfl⟩
              have hdl : decls.length = ds.length := by rw [← hdecls]; simp
              rw [hdecls] at MD hbq
              have HRD : Hid (bulkR ⟨sels, decls⟩ ≤ 4000) := by
                show _ ≤ _
                have h1 := HBQ.out.1
                have h2 := HBQ.out.2
                unfold bulkR
                simp only
                omega
              have C12 : Hid (Cur wj B ca len cap (n + 318 + 320 * els.length)) := C5.out.mono (by omega)
              generalize ds.length = nd at *
              have x0 := X5.out.c0
              have x1 := X5.out.c1
              have HLE : Hid (els.length ≤ 10000000) := by show _ ≤ _; omega
              have HEP : ∀ o1, Hid (ERule (wj.alloc o1) [.slice ua ne uc, .slice da nd dc] ⟨sels, decls⟩ (iv wo (wj.alloc o1))) := fun o1 =>
                ⟨_, _, iv w3 wi, iv w11 wj, rfl, M5.out.nw ESel.kept ((Below.refl _ _).alloc (Nat.le_refl _) _), MD.out.nw EDecl.kept ((Below.refl _ _).alloc (Nat.le_refl _) _),
                  fun b hb => ⟨by have := hb.1; have := HR3.out; omega, by have := hb.2; have := ZI.out; have := Z5'.out; simp; omega⟩,
                  fun b hb => ⟨by have := hb.1; have := HR11.out; omega, by have := hb.2; simp; omega⟩, fun b hb hc => by have := hb.2; have := hc.1; have := ZI.out; omega⟩
              clear hdecls hdl hbq R5
              go_wp2_with (at_builtin; (refine wp_rwG ERule.kept Tryz.underlying23 info_rule rfl (by decide) (by decide) wo _ rfl _ _ rfl w.heap.size B _ els rfl HR.out (G5.out.alloc _) HB.out HZ.out _ rfl ⟨sels, decls⟩ [.slice ua ne uc, .slice da nd dc] ?c1 rfl ?c2 (HEP _).out HLE.out ?_))
              case c1 =>
                intro j y hj
                rcases (show j = 0 ∨ j = 1 ∨ 2 ≤ j by omega) with rfl | rfl | h
                · simp at hj; subst hj; simp
                · simp at hj; subst hj; simp
                · rw [List.getElem?_eq_none (by simpa using h)] at hj; cases hj
              case c2 =>
                intro y hy
                simp only [List.mem_cons, List.not_mem_nil, or_false] at hy
                rcases hy with rfl | rfl <;> rfl
              intro v' w' h1 h2
              have hne : (Value.slice va els.length vc).ownBlock ≠ some B := fun e => by have := (HR.out.lt B e).1; have := HB.out; omega
              have C13 : Hid (Cur w' B ca len cap (n + 318 + 320 * els.length)) := (C12.out.alloc _ _).ext h2 hne
              have G13 : Hid (Gr B w w') := Gr.ext (Gr.trans GR.out (G5.out.alloc _)) h2 (fun g e => (HR.out.lt g e).1)
              have H1 : Hid _ := h1
              clear h1 h2 hne
              go_wp2
              go_roundw
              case rel => exact ⟨k2, _, by go_num, by simp; omega, by rw [map_snoc, bulkRs_snoc]; have := HRD.out; simp; omega, H1.out, C13.out.mono (by simp; omega), G13.out⟩
              case measure => simp [intOf]
    · have hk1 : k = 0 := by omega
      subst hk1
      have hel : els.length ≤ 4 := by omega
      go_wp2_with fail
      refine (one_any wo B ca len cap _ 40 hl (by omega) (by omega) (by omega) CR.out (DC.out _ GR.out)).mono ?_
      rintro e w3 ⟨b3, rfl, hc3, hb3⟩
      have R3 : Hid (RowO 32 2 ERule w3 w.heap.size (.slice va els.length vc) els) := HR.out.gr ERule.kept (Gr.of_sel hb3) HB.out
      have C3 : Hid (Cur w3 B ca len cap (n + 1300)) := hc3.mono (by omega)
      have G3 : Hid (Gr B w w3) := GR.out.trans (Gr.of_sel hb3)
      have Z3 : Hid (w.heap.size ≤ w3.heap.size) := G3.out.size
      clear hc3 hb3 HR CR GR HZ HBR
      go_upto_if 48 with fail
      go_cut [3] (fun v wx => ∃ els : List (El RD), els.length ≤ 5 ∧ bulkRs (els.map El.x) ≤ 4000 * els.length ∧ RowO 32 2 ERule wx w.heap.size v els ∧ Cur wx B ca len cap (n + 1300) ∧ Gr B w wx)
      case first =>
        cases b3 with
        | true =>
          have HLE : Hid (els.length ≤ 10000000) := by show _ ≤ _; omega
          have HEP : ∀ o1, Hid (ERule (w3.alloc o1) [.slice none 0 0, .slice none 0 0] ⟨[], []⟩ (iv w3 (w3.alloc o1))) := fun o1 =>
            ⟨_, _, (fun _ => False), (fun _ => False), rfl, RowM.nil _ _ _ _, RowM.nil _ _ _ _, fun b hb => hb.elim, fun b hb => hb.elim, fun b hb => hb.elim⟩
          go_wp2_with (at_builtin; (refine wp_rwG ERule.kept Tryz.underlying23 info_rule rfl (by decide) (by decide) w3 _ rfl _ _ rfl w.heap.size B _ els rfl R3.out ((Gr.refl _ _).alloc _) HB.out Z3.out _ rfl ⟨[], []⟩ [.slice none 0 0, .slice none 0 0] ?c1 rfl ?c2 (HEP _).out HLE.out ?_))
          case c1 =>
            intro j y hj
            rcases (show j = 0 ∨ j = 1 ∨ 2 ≤ j by omega) with rfl | rfl | h
            · simp at hj; subst hj; simp
            · simp at hj; subst hj; simp
            · rw [List.getElem?_eq_none (by simpa using h)] at hj; cases hj
          case c2 =>
            intro y hy
            simp only [List.mem_cons, List.not_mem_nil, or_false] at hy
            rcases hy with rfl | rfl <;> rfl
          intro v' w' h1 h2
          have hne : (Value.slice va els.length vc).ownBlock ≠ some B := fun e => by have := (R3.out.lt B e).1; have := HB.out; omega
          have C4 : Hid (Cur w' B ca len cap (n + 1300)) := (C3.out.alloc _ _).ext h2 hne
          have G4 : Hid (Gr B w w') := Gr.ext (Gr.trans G3.out ((Gr.refl _ _).alloc _)) h2 (fun g e => (R3.out.lt g e).1)
          have H1 : Hid _ := h1
          clear h1 h2 hne
          go_wp2
          go_meet
          refine ⟨_, by simp; omega, ?_, H1.out, C4.out, G4.out⟩
          rw [map_snoc, bulkRs_snoc]
          have e0 : bulkR ⟨[], []⟩ = 0 := rfl
          simp [e0]
          omega
        | false =>
          go_wp2
          go_meet
          exact ⟨els, by omega, hbk, R3.out, C3.out, G3.out⟩
      case rest =>
        obtain ⟨els, hel, hbk, hro, hc4, hg4⟩ := hcut
        obtain ⟨va, vc, hv⟩ := hro.slice
        subst hv
        have R4 : Hid (RowO 32 2 ERule wc w.heap.size (.slice va els.length vc) els) := hro
        have C4 : Hid (Cur wc B ca len cap (n + 1300)) := hc4
        have G4 : Hid (Gr B w wc) := hg4
        clear hro hc4 hg4 R3 C3 G3 Z3
        go_wp2_with fail
        refine (one_any wc B ca len cap _ 40 hl (by omega) (by omega) (by omega) C4.out (DC.out _ G4.out)).mono ?_
        rintro e w5 ⟨b5, rfl, hc5, hb5⟩
        have R5 : Hid (RowO 32 2 ERule w5 w.heap.size (.slice va els.length vc) els) := R4.out.gr ERule.kept (Gr.of_sel hb5) HB.out
        have G5 : Hid (Gr B w w5) := G4.out.trans (Gr.of_sel hb5)
        clear hc5 hb5 R4 C4 G4
        go_upto_if 54 with fail
        go_cut [3] (fun v wx => ∃ els : List (El RD), els.length ≤ 36 ∧ bulkRs (els.map El.x) ≤ 4000 * els.length ∧ RowO 32 2 ERule wx w.heap.size v els ∧ Gr B w wx)
        case first =>
          cases b5 with
          | true =>
            go_wp2
            go_loopw [3, 8] (fun v i wr => ∃ (k : Nat) (els : List (El RD)), i = .int .i64 (k : Int) ∧ k ≤ 31 ∧ els.length ≤ 5 + k ∧ bulkRs (els.map El.x) ≤ 4000 * els.length ∧ RowO 32 2 ERule wr w.heap.size v els ∧ Gr B w wr) (fun _ i _ => 31 - (intOf i).toNat)
            case atStart => exact ⟨0, els, rfl, by omega, by omega, hbk, R5.out, G5.out⟩
            case round =>
              obtain ⟨k, els, rfl, hk, hel, hbk, hro, hgr⟩ := hrel
              obtain ⟨va, vc, hv⟩ := hro.slice
              subst hv
              have R3 : Hid (RowO 32 2 ERule wr w.heap.size (.slice va els.length vc) els) := hro
              have G3 : Hid (Gr B w wr) := hgr
              have Z3 : Hid (w.heap.size ≤ wr.heap.size) := hgr.size
              clear hro hgr
              by_cases hlt : k < 31
              · have hkI : (k : Int) < 31 := by omega
                have HLE : Hid (els.length ≤ 10000000) := by show _ ≤ _; omega
                have HEP : ∀ o1, Hid _ := fun o1 => gRule wr ⟨#[103]⟩ 67 34 o1
                go_wp2_with (at_builtin; (refine wp_rwG ERule.kept Tryz.underlying23 info_rule rfl (by decide) (by decide) wr _ rfl _ _ rfl w.heap.size B _ els rfl R3.out ((((Gr.refl _ _).alloc _).alloc _).alloc _) HB.out Z3.out _ rfl ⟨[[⟨⟨#[103]⟩, ⟨#[]⟩, []⟩]], []⟩ [.slice (some ⟨wr.heap.size + 1, 0, none⟩) 1 1, .slice none 0 0] ?c1 rfl ?c2 (HEP _).out HLE.out ?_))
                case c2 => exact ⟨rfl, rfl⟩
                intro v' w' h1 h2
                have hne : (Value.slice va els.length vc).ownBlock ≠ some B := fun e => by have := (R3.out.lt B e).1; have := HB.out; omega
                have G4 : Hid (Gr B w w') := Gr.ext (Gr.trans G3.out ((((Gr.refl _ _).alloc _).alloc _).alloc _)) h2 (fun g e => (R3.out.lt g e).1)
                have H1 : Hid _ := h1
                clear h1 h2 hne
                go_wp2
                go_roundw
                case rel =>
                  refine ⟨k + 1, _, by go_num, by omega, by simp; omega, ?_, H1.out, G4.out⟩
                  rw [map_snoc, bulkRs_snoc]
                  have := gRule_bulk ⟨#[103]⟩ (by decide)
                  simp only [List.length_append, List.length_cons, List.length_nil]
                  omega
                case measure => simp [intOf]; omega
              · have hkI : ¬ ((k : Int) < 31) := by omega
                go_wp2
                go_meet
                exact ⟨els, by omega, hbk, R3.out, G3.out⟩
          | false =>
            go_wp2
            go_meet
            exact ⟨els, by omega, hbk, R5.out, G5.out⟩
        case rest =>
          obtain ⟨els, hel, hbk, hro, hgr⟩ := hcut
          have hr := RowO.row hro (F := iv w wc) (fun b h1 h2 => ⟨h1, h2⟩)
          have HGR : Hid (Gr B w wc) := hgr
          have HRR : Hid _ := hr
          clear hr hgr hro R5 G5
          go_wp2
          go_ret
          exact ⟨⟨els.map El.x, _, rfl, HRR.out, by simp; omega, by simpa using hbk⟩, HGR.out⟩
end Go.Proofs.YtnkmdmmlpidcmaaGreatDoor
namespace Go.Proofs.YtnkmdmmlpidcmaaGreatDoor
open Go.ChangeShapes Go.WideShapes Go.ChangeAt Go.RowKit
set_option linter.unusedVariables false

theorem Code.past {w w1 : World} {B B' : Nat} {ca : Option Addr} {len : Nat} (h : Code w B ca len) (hb : Below B w w1) (hB : B ≤ B') : Code w1 B' ca len := by
  rcases h with h | ⟨b, off, h1, h2, h3⟩
  · exact Or.inl h
  · refine Or.inr ⟨b, off, h1, by omega, fun i hi => ?_⟩
    obtain ⟨v, v0, v1, hv⟩ := h3 i hi
    exact ⟨v, v0, v1, by rw [hb.cell (p := ⟨b, off + i, none⟩) h2]; exact hv⟩
theorem Gr.nw {w W w' : World} (h : Nw w W) (k : Gr w.heap.size W w') : Nw w w' := by
  have k' : W.grownBy w' (some w.heap.size) := k
  exact ⟨k'.os.trans (Below.os h), k'.tape.trans (Below.tape h), k'.output.trans (Below.output h), Nat.le_trans (Below.size h) k'.size, fun i hi => (k'.block i (Nat.lt_of_lt_of_le hi (Below.size h)) (fun e => by have := Option.some.inj e; omega)).trans (Below.block h i hi)⟩
theorem cur0 (w : World) (ca : Option Addr) (len cap : Nat) : Cur (w.alloc (.cells #[.slice ca len cap, .int .i64 0, .int .u64 0] 56)) w.heap.size ca len cap 0 :=
  ⟨0, 0, by omega, by omega, by omega, by simp, by simp, by simp, fun o => World.frozen?_alloc_at _ _ _ _ rfl, by simp⟩
set_option maxRecDepth 100000 in
set_option maxHeartbeats 8000000 in
theorem drawSheet_any (w : World) (ca : Option Addr) (len cap : Nat) (hl : len ≤ 9223372036854775807) (hd : Code w w.heap.size ca len) :
    Calls Tryz.prog 6 #[.slice ca len cap] w fun e w' => SheetDrawn w w' e ∧ Nw w w' := by
  obtain ⟨W, hW⟩ : ∃ W, w.alloc (.cells #[.slice ca len cap, .int .i64 0, .int .u64 0] 56) = W := ⟨_, rfl⟩
  have NW : Hid (Nw w W) := by show Nw _ _; rw [← hW]; exact (Below.refl _ _).alloc (Nat.le_refl _) _
  have C0 : Hid (Cur W w.heap.size ca len cap 0) := by show Cur _ _ _ _ _ _; rw [← hW]; exact cur0 w ca len cap
  have D0 : Hid (∀ w', Nw w w' → Code w' w.heap.size ca len) := fun w' h => Code.below hd h
  have HW : Hid (_ = W) := hW
  clear hW hd
  go_enter Tryz.func6, Tryz.ntmps6
  go_wp2_with fail
  rw [HW.out]
  refine (sheetOf_any W w.heap.size ca len cap 0 hl (by omega) C0.out (D0.out _ NW.out)).mono ?_
  rintro e w1 ⟨⟨l, u, rfl, hu, hl1, hb1⟩, hg1⟩
  have HU : Hid (RowM 2 ERule w1 u l (iv w w1)) := hu.mono (iv_low (Below.size NW.out))
  have N1 : Hid (Nw w w1) := Gr.nw NW.out hg1
  clear hu hg1
  obtain ⟨ua, uc, rfl, _⟩ := HU.out.slice
  go_wp2
  go_ret
  exact ⟨⟨l, _, rfl, HU.out, hl1, hb1⟩, N1.out⟩
set_option maxRecDepth 100000 in
set_option maxHeartbeats 8000000 in
theorem drawSel_any (w : World) (ca : Option Addr) (len cap : Nat) (hl : len ≤ 9223372036854775807) (hd : Code w w.heap.size ca len) :
    Calls Tryz.prog 11 #[.slice ca len cap] w fun e w' => SelDrawn 7 w w' e ∧ Nw w w' := by
  obtain ⟨W, hW⟩ : ∃ W, w.alloc (.cells #[.slice ca len cap, .int .i64 0, .int .u64 0] 56) = W := ⟨_, rfl⟩
  have NW : Hid (Nw w W) := by show Nw _ _; rw [← hW]; exact (Below.refl _ _).alloc (Nat.le_refl _) _
  have C0 : Hid (Cur W w.heap.size ca len cap 0) := by show Cur _ _ _ _ _ _; rw [← hW]; exact cur0 w ca len cap
  have D0 : Hid (∀ w', Nw w w' → Code w' w.heap.size ca len) := fun w' h => Code.below hd h
  have HBW : Hid (w.heap.size < W.heap.size) := by show _ < _; rw [← hW]; simp
  have HW : Hid (_ = W) := hW
  clear hW hd
  go_enter Tryz.func11, Tryz.ntmps11
  go_wp2_with fail
  rw [HW.out]
  refine (selector_own W w.heap.size ca len cap 0 hl (by omega) C0.out (D0.out _ NW.out)).mono ?_
  rintro e w1 ⟨⟨els, u, rfl, hu, hl1, hb1⟩, hc1, hg1⟩
  obtain ⟨ua, uc, hus⟩ := hu.slice
  subst hus
  have R1 : Hid (RowO 67 3 EPart w1 W.heap.size (.slice ua els.length uc) els) := hu
  have C1 : Hid (Cur w1 w.heap.size ca len cap (0 + 126)) := hc1
  have G1 : Hid (Gr w.heap.size W w1) := hg1
  clear hu hc1 hg1
  go_wp2_with fail
  refine (one_any w1 w.heap.size ca len cap (0 + 126) 12 hl (by omega) (by omega) (by omega) C1.out (D0.out _ (Gr.nw NW.out G1.out))).mono ?_
  rintro e w2 ⟨bb, rfl, hc2, hb2⟩
  have R2 : Hid (RowO 67 3 EPart w2 W.heap.size (.slice ua els.length uc) els) := R1.out.gr EPart.kept (Gr.of_sel hb2) HBW.out
  have C2 : Hid (Cur w2 w.heap.size ca len cap (0 + 126 + 2)) := hc2
  have G2 : Hid (Gr w.heap.size W w2) := G1.out.trans (Gr.of_sel hb2)
  clear hc2 hb2 R1 C1 G1
  cases bb with
  | true =>
    go_wp2_with fail
    refine (of_lit w2 w.heap.size 20 [⟨#[49]⟩, ⟨#[97, 32, 98]⟩, ⟨#[]⟩] (by decide) 9 ca len cap (0 + 126 + 2) hl (by omega) (by decide) (by decide) C2.out (D0.out _ (Gr.nw NW.out G2.out))).mono ?_
    rintro e w3 ⟨ty, rfl, hty, hc3, hg3⟩
    have R3 : Hid (RowO 67 3 EPart w3 W.heap.size (.slice ua els.length uc) els) := R2.out.gr EPart.kept hg3 HBW.out
    have C3 : Hid (Cur w3 w.heap.size ca len cap (0 + 126 + 2 + 2)) := hc3
    have G3 : Hid (Gr w.heap.size W w3) := G2.out.trans hg3
    clear hc3 hg3 R2 C2 G2
    go_wp2_with fail
    refine (of_lit w3 w.heap.size 20 [⟨#[]⟩, ⟨#[35]⟩] (by decide) 9 ca len cap (0 + 126 + 2 + 2) hl (by omega) (by decide) (by decide) C3.out (D0.out _ (Gr.nw NW.out G3.out))).mono ?_
    rintro e w4 ⟨id, rfl, hid, hc4, hg4⟩
    have R4 : Hid (RowO 67 3 EPart w4 W.heap.size (.slice ua els.length uc) els) := R3.out.gr EPart.kept hg4 HBW.out
    have G4 : Hid (Gr w.heap.size W w4) := G3.out.trans hg4
    have Z4 : Hid (W.heap.size ≤ w4.heap.size) := G4.out.size
    have HLE : Hid (els.length ≤ 10000000) := by show _ ≤ _; omega
    have HEP : ∀ o1, Hid (EPart (w4.alloc o1) [.string ty, .string id, .slice none 0 0] ⟨ty, id, []⟩ (iv w4 (w4.alloc o1))) := fun o1 => ⟨_, rfl, RowM.nil _ _ _ _⟩
    clear hc4 hg4 R3 C3 G3
    go_wp2_with (at_builtin; (refine wp_rwG EPart.kept Tryz.underlying34 Tryz.info67 rfl (by decide) (by decide) w4 _ rfl _ _ rfl W.heap.size w.heap.size _ els rfl R4.out ((Gr.refl _ _).alloc _) HBW.out Z4.out _ rfl ⟨ty, id, []⟩ [.string ty, .string id, .slice none 0 0] ?c1 rfl ?c2 (HEP _).out HLE.out ?_))
    case c1 =>
      intro j y hj
      rcases (show j = 0 ∨ j = 1 ∨ j = 2 ∨ 3 ≤ j by omega) with rfl | rfl | rfl | h
      · simp at hj; subst hj; simp
      · simp at hj; subst hj; simp
      · simp at hj; subst hj; simp
      · rw [List.getElem?_eq_none (by simpa using h)] at hj; cases hj
    case c2 =>
      intro y hy
      simp only [List.mem_cons, List.not_mem_nil, or_false] at hy
      rcases hy with rfl | rfl | rfl <;> rfl
    intro v' w' h1 h2
    have N5 : Hid (Nw w w') := Gr.nw NW.out (Gr.ext (Gr.trans G4.out ((Gr.refl _ _).alloc _)) h2 (fun g e => (R4.out.lt g e).1))
    have HU : Hid _ := RowO.row h1 (F := iv w w') (fun b h1 h2 => ⟨by have := HBW.out; omega, h2⟩)
    clear h1 h2
    obtain ⟨va, vc, rfl, _⟩ := RowM.slice HU.out
    go_wp2
    go_ret
    refine ⟨⟨_, _, rfl, HU.out, by simp; omega, ?_⟩, N5.out⟩
    rw [map_snoc, bulkPs_snoc]
    have e0 : bulkP ⟨ty, id, []⟩ ≤ 40 := by simp [bulkP, bulk1]; omega
    simp only [List.length_append, List.length_map, List.length_cons, List.length_nil]
    omega
  | false =>
    have N5 : Hid (Nw w w2) := Gr.nw NW.out G2.out
    have HU : Hid (RowM 3 EPart w2 (.slice ua els.length uc) (els.map El.x) (iv w w2)) := RowO.row R2.out (fun b h1 h2 => ⟨by have := HBW.out; omega, h2⟩)
    go_wp2
    go_ret
    exact ⟨⟨_, _, rfl, HU.out, by simp; omega, by simpa using hb1⟩, N5.out⟩
end Go.Proofs.YtnkmdmmlpidcmaaGreatDoor
namespace Go.Proofs.YtnkmdmmlpidcmaaGreatDoor
open Go.ChangeShapes Go.WideShapes Go.ChangeAt Go.RowKit
set_option linter.unusedVariables false

theorem bads_low (b : UInt8) (h : b ∈ (⟨#[59, 123, 125, 47, 33]⟩ : ByteArray).data.toList) : b.toNat < 128 := by
  simp at h
  rcases h with rfl | rfl | rfl | rfl | rfl <;> decide
theorem bt_bads (i : Nat) (h : i < (⟨#[59, 123, 125, 47, 33]⟩ : ByteArray).size) : ((⟨#[59, 123, 125, 47, 33]⟩ : ByteArray)[i]'h).toNat < 128 :=
  bads_low _ (Array.getElem_mem_toList (xs := (⟨#[59, 123, 125, 47, 33]⟩ : ByteArray).data) h)
set_option maxHeartbeats 4000000 in
set_option maxRecDepth 100000 in
theorem indexRuneX_error (w : World) :
    Calls Tryz.prog 110 #[.string ⟨#[59, 123, 125, 47, 33]⟩, .int .i32 65533] w fun e w' => e = .returned (.int .i64 (-1)) ∧ Nw w w' := by
  have hsz : (⟨#[59, 123, 125, 47, 33]⟩ : ByteArray).size = 5 := rfl
  have HL : Hid (∀ i (h : i < (⟨#[59, 123, 125, 47, 33]⟩ : ByteArray).size), ((⟨#[59, 123, 125, 47, 33]⟩ : ByteArray)[i]'h).toNat < 128) := bt_bads
  generalize hS : (⟨#[59, 123, 125, 47, 33]⟩ : ByteArray) = S at *
  clear hS
  go_enter Tryz.func110, Tryz.ntmps110
  go_wp2
  go_loopw [] (fun wr => ∃ pos : Nat, pos ≤ S.size ∧ wr = w.iter S pos) (fun wr => S.size - wr.iterPos w.heap.size)
  case atStart => exact ⟨0, Nat.zero_le _, rfl⟩
  case round =>
    obtain ⟨pos, hp, rfl⟩ := hrel
    by_cases hlt : pos < S.size
    · have ha := HL.out pos hlt
      have hnx : ∀ ty, (Instr.next (.pointer (some ⟨w.heap.size, 0, none⟩)) true ty).run Tryz.prog (w.iter S pos) = .ok (.tuple #[.bool true, .int .i64 pos, .int .i32 ((S[pos]'hlt).toNat : Int)]) (w.iter S (pos + 1)) := fun ty => by
        have := run_next_any (P := Tryz.prog) w S pos ty hlt
        rw [decode_ascii S pos hlt ha] at this
        exact this
      have hne : (((S[pos]'hlt).toNat : Int) == 65533) = false := beq_eq_false_iff_ne.2 (by omega)
      generalize (S[pos]'hlt).toNat = x at *
      clear hsz
      go_wp2
      go_roundw
      case rel => exact ⟨pos + 1, by omega, rfl⟩
      case measure => simp; omega
    · have hnx := fun ty => run_next_end (P := Tryz.prog) w S pos ty hlt
      clear hsz
      go_wp2
      go_ret
      exact ⟨rfl, (Below.refl _ _).alloc (Nat.le_refl _) _⟩
set_option maxHeartbeats 4000000 in
set_option maxRecDepth 100000 in
theorem indexRuneX_bad (w : World) (r : Int) (h1 : 128 ≤ r) (h2 : r ≤ 1114111) (he : ¬ r = 65533) (hv : Lib.validRune r = false) :
    Calls Tryz.prog 110 #[.string ⟨#[59, 123, 125, 47, 33]⟩, .int .i32 r] w fun e w' => e = .returned (.int .i64 (-1)) ∧ Nw w w' := by
  have hne : (r == 65533) = false := beq_eq_false_iff_ne.2 he
  go_enter Tryz.func110, Tryz.ntmps110
  go_wp2_with (go_at_call 152; refine (Tryz.utf8_ValidRune r _).mono ?_; rw [hv]; rintro e w' ⟨rfl, hq⟩; have hq2 := hq.symm; clear hq; subst hq2)
  go_ret
  exact ⟨rfl, Below.refl _ _⟩
set_option maxHeartbeats 4000000 in
set_option maxRecDepth 100000 in
theorem indexRuneX_far (w : World) (r : Int) (h1 : 128 ≤ r) (h2 : r ≤ 1114111) (he : ¬ r = 65533) (hv : Lib.validRune r = true) :
    Calls Tryz.prog 110 #[.string ⟨#[59, 123, 125, 47, 33]⟩, .int .i32 r] w fun e w' => e = .returned (.int .i64 (-1)) ∧ Nw w w' := by
  have hne : (r == 65533) = false := beq_eq_false_iff_ne.2 he
  have hval : Utf8.valid r = true := by rw [validRune_eq]; exact hv
  obtain ⟨e1, e2, e3⟩ := encode_facts r hval h1
  have hl : (Utf8.encode r).size - 1 < (Utf8.encode r).size := by omega
  have e4 := e3 hl
  generalize hc : Utf8.encode r = c at *
  clear e3 hval
  have hcc : c.size = 2 ∨ c.size = 3 ∨ c.size = 4 := by omega
  have e5 : ∀ j (h : j < c.size), j = c.size - 1 → 128 ≤ (c[j]'h).toNat := fun j h e => by subst e; exact e4
  clear e4 hl
  rcases hcc with hz | hz | hz
  · have hl : 1 < c.size := by omega
    have hwr : IntKind.i64.wrap 2 = 2 := by decide
    have y4 := e5 1 hl (by omega)
    have y5 := UInt8.toNat_lt (c[1]'hl)
    have HB : ∀ W t, (∀ b ∈ t.data.toList, b.toNat < 128) → Hid (Calls Tryz.prog 151 #[.string t, .int .u8 (((c[1]'hl).toNat : Nat) : Int)] W fun e w' => e = .returned (.int .i64 (-1)) ∧ w' = W) := fun W t ht => indexByte_high t _ ht y4 (by omega) W
    have y6 := bt_bads 1 (by decide)
    have hq : (((((⟨#[59, 123, 125, 47, 33]⟩ : ByteArray)[1]'(by decide)).toNat : Nat) : Int) == (((c[1]'hl).toNat : Nat) : Int)) = false := beq_eq_false_iff_ne.2 (by omega)
    clear e5
    go_enter Tryz.func110, Tryz.ntmps110
    go_wp2_with (go_at_call 152; refine (Tryz.utf8_ValidRune r _).mono ?_; rw [hv]; rintro e w' ⟨rfl, hq⟩; have hq2 := hq.symm; clear hq; subst hq2)
    go_step3
    go_wp2
    go_loopw [9, 10] (fun i f wr => i = .int .i64 1 ∧ f = .int .i64 0 ∧ wr = w) (fun _ _ _ => 0)
    case atStart => exact ⟨by first | rfl | (rw [hz]; rfl), rfl, rfl⟩
    case round =>
      obtain ⟨rfl, rfl, rfl⟩ := hrel
      go_wp2
      go_step3
      go_wp2
      go_quiet (fail)
      go_wp2
      go_quiet ((go_at_call 151; refine Calls.mono (HB _ _ (fun b hb => bads_low b (mem_extract hb))).out ?_; rintro e w9 ⟨rfl, rfl⟩; exact ⟨rfl, _, rfl⟩))
      go_wp2
      rw [Exit.noGoto_ret]
      go_wp2
      rw [Exit.noGoto_ret]
      go_ret
      exact ⟨rfl, by first | exact (((Kp.refl _).drewN _).drewN _).nw | exact ((Kp.refl _).drewN _).nw⟩
  · have hl : 2 < c.size := by omega
    have hwr : IntKind.i64.wrap 3 = 3 := by decide
    have y4 := e5 2 hl (by omega)
    have y5 := UInt8.toNat_lt (c[2]'hl)
    have HB : ∀ W t, (∀ b ∈ t.data.toList, b.toNat < 128) → Hid (Calls Tryz.prog 151 #[.string t, .int .u8 (((c[2]'hl).toNat : Nat) : Int)] W fun e w' => e = .returned (.int .i64 (-1)) ∧ w' = W) := fun W t ht => indexByte_high t _ ht y4 (by omega) W
    have y6 := bt_bads 2 (by decide)
    have hq : (((((⟨#[59, 123, 125, 47, 33]⟩ : ByteArray)[2]'(by decide)).toNat : Nat) : Int) == (((c[2]'hl).toNat : Nat) : Int)) = false := beq_eq_false_iff_ne.2 (by omega)
    clear e5
    go_enter Tryz.func110, Tryz.ntmps110
    go_wp2_with (go_at_call 152; refine (Tryz.utf8_ValidRune r _).mono ?_; rw [hv]; rintro e w' ⟨rfl, hq⟩; have hq2 := hq.symm; clear hq; subst hq2)
    go_step3
    go_wp2
    go_loopw [9, 10] (fun i f wr => i = .int .i64 2 ∧ f = .int .i64 0 ∧ wr = w) (fun _ _ _ => 0)
    case atStart => exact ⟨by first | rfl | (rw [hz]; rfl), rfl, rfl⟩
    case round =>
      obtain ⟨rfl, rfl, rfl⟩ := hrel
      go_wp2
      go_step3
      go_wp2
      go_quiet (fail)
      go_wp2
      go_quiet ((go_at_call 151; refine Calls.mono (HB _ _ (fun b hb => bads_low b (mem_extract hb))).out ?_; rintro e w9 ⟨rfl, rfl⟩; exact ⟨rfl, _, rfl⟩))
      go_wp2
      rw [Exit.noGoto_ret]
      go_wp2
      rw [Exit.noGoto_ret]
      go_ret
      exact ⟨rfl, by first | exact (((Kp.refl _).drewN _).drewN _).nw | exact ((Kp.refl _).drewN _).nw⟩
  · have hl : 3 < c.size := by omega
    have hwr : IntKind.i64.wrap 4 = 4 := by decide
    have y4 := e5 3 hl (by omega)
    have y5 := UInt8.toNat_lt (c[3]'hl)
    have HB : ∀ W t, (∀ b ∈ t.data.toList, b.toNat < 128) → Hid (Calls Tryz.prog 151 #[.string t, .int .u8 (((c[3]'hl).toNat : Nat) : Int)] W fun e w' => e = .returned (.int .i64 (-1)) ∧ w' = W) := fun W t ht => indexByte_high t _ ht y4 (by omega) W
    have y6 := bt_bads 3 (by decide)
    have hq : (((((⟨#[59, 123, 125, 47, 33]⟩ : ByteArray)[3]'(by decide)).toNat : Nat) : Int) == (((c[3]'hl).toNat : Nat) : Int)) = false := beq_eq_false_iff_ne.2 (by omega)
    clear e5
    go_enter Tryz.func110, Tryz.ntmps110
    go_wp2_with (go_at_call 152; refine (Tryz.utf8_ValidRune r _).mono ?_; rw [hv]; rintro e w' ⟨rfl, hq⟩; have hq2 := hq.symm; clear hq; subst hq2)
    go_step3
    go_wp2
    go_loopw [9, 10] (fun i f wr => i = .int .i64 3 ∧ f = .int .i64 0 ∧ wr = w) (fun _ _ _ => 0)
    case atStart => exact ⟨by first | rfl | (rw [hz]; rfl), rfl, rfl⟩
    case round =>
      obtain ⟨rfl, rfl, rfl⟩ := hrel
      go_wp2
      go_step3
      go_wp2
      go_quiet (fail)
      go_wp2
      go_quiet ((go_at_call 151; refine Calls.mono (HB _ _ (fun b hb => bads_low b (mem_extract hb))).out ?_; rintro e w9 ⟨rfl, rfl⟩; exact ⟨rfl, _, rfl⟩))
      go_wp2
      rw [Exit.noGoto_ret]
      go_wp2
      rw [Exit.noGoto_ret]
      go_ret
      exact ⟨rfl, by first | exact (((Kp.refl _).drewN _).drewN _).nw | exact ((Kp.refl _).drewN _).nw⟩
def badN (x : Nat) : Bool := decide (x = 59 ∨ x = 123 ∨ x = 125 ∨ x = 47 ∨ x = 33)
set_option maxRecDepth 100000 in
theorem badRune (w : World) (x : Nat) (hx : x ≤ 1114111) :
    Calls Tryz.prog 110 #[.string ⟨#[59, 123, 125, 47, 33]⟩, .int .i32 (x : Int)] w fun e w' => (∃ k : Int, e = .returned (.int .i64 k) ∧ decide (0 ≤ k) = badN x) ∧ Nw w w' := by
  by_cases h : x < 128
  · have key : ∀ x : Nat, x < 128 → decide (0 ≤ Lib.indexByte (⟨#[59, 123, 125, 47, 33]⟩ : ByteArray).data.toList ((x : Int)).toNat.toUInt8) = badN x := by decide
    have k0 := key x h
    refine (Tryz.strings_IndexRune_ascii _ x w (by omega) (by omega)).mono ?_
    rintro e w' ⟨rfl, rfl⟩
    exact ⟨⟨_, rfl, k0⟩, Below.refl _ _⟩
  · have hb : badN x = false := by unfold badN; exact decide_eq_false (by omega)
    have key : Calls Tryz.prog 110 #[.string ⟨#[59, 123, 125, 47, 33]⟩, .int .i32 (x : Int)] w fun e w' => e = .returned (.int .i64 (-1)) ∧ Nw w w' := by
      by_cases he : (x : Int) = 65533
      · rw [he]; exact indexRuneX_error w
      · cases hv : Lib.validRune (x : Int) with
        | false => exact indexRuneX_bad w x (by omega) (by omega) he hv
        | true => exact indexRuneX_far w x (by omega) (by omega) he hv
    refine key.mono ?_
    rintro e w' ⟨rfl, k1⟩
    exact ⟨⟨_, rfl, by rw [hb]; rfl⟩, k1⟩
end Go.Proofs.YtnkmdmmlpidcmaaGreatDoor
namespace Go.Proofs.YtnkmdmmlpidcmaaGreatDoor
open Go.ChangeShapes Go.WideShapes Go.ChangeAt Go.RowKit
set_option linter.unusedVariables false

def badB (b : UInt8) : Bool := badN b.toNat
def badL (l : List UInt8) : Bool := l.any badB
theorem bad_mem : ∀ n, n < 256 → ([59, 123, 125, 47, 33] : List UInt8).contains (UInt8.ofNat n) = badB (UInt8.ofNat n) := by decide +kernel
theorem bad_in (b : UInt8) : ([59, 123, 125, 47, 33] : List UInt8).contains b = badB b := by
  have h := bad_mem b.toNat (UInt8.toNat_lt b)
  rw [UInt8.ofNat_toNat] at h
  exact h
theorem indexAny_bad : ∀ l : List UInt8, decide (0 ≤ Lib.indexAny l [59, 123, 125, 47, 33]) = badL l := by
  intro l
  induction l with
  | nil => rfl
  | cons b l ih =>
    have hg := Lib.indexAny_ge [59, 123, 125, 47, 33] l
    unfold badL at *
    rw [List.any_cons, ← ih]
    have e : Lib.indexAny (b :: l) [59, 123, 125, 47, 33] = if ([59, 123, 125, 47, 33] : List UInt8).contains b then 0 else if Lib.indexAny l [59, 123, 125, 47, 33] == -1 then -1 else Lib.indexAny l [59, 123, 125, 47, 33] + 1 := rfl
    rw [e, bad_in]
    clear e
    cases hb : badB b
    · simp only [Bool.false_eq_true, if_false, Bool.false_or]
      by_cases h : Lib.indexAny l [59, 123, 125, 47, 33] = -1
      · rw [h]; rfl
      · have h2 : (Lib.indexAny l [59, 123, 125, 47, 33] == -1) = false := beq_eq_false_iff_ne.2 h
        rw [h2]
        simp only [Bool.false_eq_true, if_false]
        rw [Bool.eq_iff_iff]
        simp
        omega
    · simp
theorem next_at {P : Program} {w : World} {g : Nat} {s : ByteArray} {pos : Nat} (ty : TypeId) (hb : w.heap[g]? = some (.stringIter s pos)) (h : pos < s.size) :
    (Instr.next (.pointer (some ⟨g, 0, none⟩)) true ty).run P w = .ok (.tuple #[.bool true, .int .i64 pos, .int .i32 (Utf8.decode s pos).1]) { w with heap := w.heap.setIfInBounds g (.stringIter s (pos + (Utf8.decode s pos).2)) } := by
  simp only [Instr.next, getObj, setObj, Sem.run_bind, Sem.run, hb, Result.andThen, h, if_true]
  rfl
theorem next_end {P : Program} {w : World} {g : Nat} {s : ByteArray} {pos : Nat} (ty : TypeId) (hb : w.heap[g]? = some (.stringIter s pos)) (h : ¬ pos < s.size) :
    (Instr.next (.pointer (some ⟨g, 0, none⟩)) true ty).run P w = .ok (.tuple #[.bool false]) w := by
  simp only [Instr.next, getObj, setObj, Sem.run_bind, Sem.run, hb, Result.andThen, h, if_false]
  rfl
/-- The world in which a text's reader has gone on. -/
def setIt (w : World) (g : Nat) (s : ByteArray) (p : Nat) : World := { w with heap := w.heap.setIfInBounds g (.stringIter s p) }
theorem setIt_at {w : World} {g : Nat} {s : ByteArray} {p : Nat} (h : g < w.heap.size) : (setIt w g s p).heap[g]? = some (.stringIter s p) := by
  unfold setIt
  simp [h]
theorem setIt_nw {W w : World} {g : Nat} {s : ByteArray} {p : Nat} (h : Nw W w) (hg : W.heap.size ≤ g) : Nw W (setIt w g s p) :=
  ⟨(show w.os = W.os from Below.os h), (show w.tape = W.tape from Below.tape h), (show w.output = W.output from Below.output h), by unfold setIt; simpa using Below.size h, fun k hk => by
    unfold setIt
    simp only
    rw [Array.getElem?_setIfInBounds_ne (by omega)]
    exact Below.block h k hk⟩
theorem any_step {s : ByteArray} {pos K : Nat} (ha : (s.data.toList.take pos).any badB = false) (hK : pos + K ≤ s.size) (h : ∀ j, j < K → ∀ hj : pos + j < s.size, badB s[pos + j] = false) : (s.data.toList.take (pos + K)).any badB = false := by
  rw [List.any_eq_false] at *
  intro x hx
  obtain ⟨i, hi, rfl⟩ := List.mem_iff_getElem.1 hx
  rw [List.length_take, data_len] at hi
  rw [List.getElem_take]
  by_cases h1 : i < pos
  · exact ha _ (List.mem_iff_getElem.2 ⟨i, by rw [List.length_take, data_len]; omega, by rw [List.getElem_take]⟩)
  · have := h (i - pos) (by omega) (by omega)
    rw [getB s (pos + (i - pos)) (by omega)] at this
    simp only [show pos + (i - pos) = i by omega] at this
    rw [this]
    simp
theorem badN_high {x : Nat} (h : 128 ≤ x) : badN x = false := by unfold badN; exact decide_eq_false (by omega)
theorem rune_step {s : ByteArray} {pos : Nat} (h : pos < s.size) (hh : 128 ≤ (s[pos]'h).toNat) : ∃ x K : Nat, Utf8.decode s pos = (x, K) ∧ 128 ≤ x ∧ x ≤ 1114111 ∧ 1 ≤ K ∧ pos + K ≤ s.size ∧ ∀ j, j < K → ∀ hj : pos + j < s.size, badB s[pos + j] = false := by
  obtain ⟨h1, h2⟩ := decode_high s pos h hh
  have hc := Lib.decodeN_conts (s.size - pos) (s.get! pos).toNat (s.get! (pos + 1)).toNat (s.get! (pos + 2)).toNat (s.get! (pos + 3)).toNat
  have hr := Lib.decodeN_rune_le (s.size - pos) (s.get! pos).toNat (s.get! (pos + 1)).toNat (s.get! (pos + 2)).toNat (s.get! (pos + 3)).toNat (UInt8.toNat_lt _)
  rw [← Lib.decode_at] at hc hr
  obtain ⟨c2, c3, c4, c5⟩ := hc
  obtain ⟨x, K, hd⟩ : ∃ x K, Utf8.decode s pos = (x, K) := ⟨_, _, rfl⟩
  rw [hd] at h1 h2 c2 c3 c4 c5 hr
  simp only at *
  have gb : ∀ k (hk : k < s.size), s.get! k = s[k] := fun k hk => by
    show s.data[k]! = s.data[k]
    exact getElem!_pos s.data k hk
  refine ⟨x, K, hd, h1, hr, h2, ?_, fun j hj hjs => ?_⟩
  · rcases (show K = 1 ∨ K = 2 ∨ K = 3 ∨ K = 4 by omega) with rfl | rfl | rfl | rfl
    · omega
    · have := (c2 (by omega)).2; omega
    · have := (c3 (by omega)).2; omega
    · have := (c4 (by omega)).2; omega
  · apply badN_high
    rcases (show j = 0 ∨ j = 1 ∨ j = 2 ∨ j = 3 by omega) with rfl | rfl | rfl | rfl
    · exact hh
    · have := (c2 (by omega)).1; rw [gb _ hjs] at this; omega
    · have := (c3 (by omega)).1; rw [gb _ hjs] at this; omega
    · have := (c4 (by omega)).1; rw [gb _ hjs] at this; omega
set_option maxHeartbeats 4000000 in
set_option maxRecDepth 100000 in
theorem iany_short (s : ByteArray) (w : World) (h8 : s.size ≤ 8) : Calls Tryz.prog 144 #[.string s, .string ⟨#[59, 123, 125, 47, 33]⟩] w fun e w' => (∃ k : Int, e = .returned (.int .i64 k) ∧ decide (0 ≤ k) = badL s.data.toList) ∧ Nw w w' := by
  have hsz : (⟨#[59, 123, 125, 47, 33]⟩ : ByteArray).size = 5 := rfl
  have hne1 : (⟨#[59, 123, 125, 47, 33]⟩ : ByteArray).toList.isEmpty = false := by decide +kernel
  have hne2 : ¬ (⟨#[59, 123, 125, 47, 33]⟩ : ByteArray).toList = [] := by decide +kernel
  have hne3 : ((⟨#[59, 123, 125, 47, 33]⟩ : ByteArray).toList == []) = false := by decide +kernel
  have HBR : Hid (∀ (W : World) (x : Nat), x ≤ 1114111 → Calls Tryz.prog 110 #[.string ⟨#[59, 123, 125, 47, 33]⟩, .int .i32 (x : Int)] W fun e w' => (∃ k : Int, e = .returned (.int .i64 k) ∧ decide (0 ≤ k) = badN x) ∧ Nw W w') := fun W x hx => badRune W x hx
  generalize (⟨#[59, 123, 125, 47, 33]⟩ : ByteArray) = S at *
  go_enter Tryz.func144, Tryz.ntmps144
  go_wp2_with fail
  refine (Tryz.strings_shouldUseASCIISet (s.size : Int) _).mono ?_
  rw [decide_eq_false (by omega)]
  rintro e w1 ⟨rfl, hq⟩
  have hq2 := hq.symm; clear hq; subst hq2
  clear hne1 hne2 hne3 hsz
  go_wp2
  go_loopw [] (fun wr => ∃ pos : Nat, pos ≤ s.size ∧ wr.heap[w.heap.size]? = some (.stringIter s pos) ∧ Nw w wr ∧ (s.data.toList.take pos).any badB = false) (fun wr => s.size - wr.iterPos w.heap.size)
  case atStart => exact ⟨0, Nat.zero_le _, World.iter_heap w s 0, (Below.refl _ _).alloc (Nat.le_refl _) _, rfl⟩
  case round =>
    obtain ⟨pos, hp, hit, hw, hany⟩ := hrel
    have HIT : Hid (wr.heap[w.heap.size]? = some (.stringIter s pos)) := hit
    have HW : Hid (Nw w wr) := hw
    have HAN : Hid ((s.data.toList.take pos).any badB = false) := hany
    have hpos : wr.iterPos w.heap.size = pos := by unfold World.iterPos; rw [hit]
    have HPO : Hid (wr.iterPos w.heap.size = pos) := hpos
    have hlt0 : w.heap.size < wr.heap.size := (Array.getElem?_eq_some_iff.1 hit).1
    clear hit hw hany hpos
    by_cases hlt : pos < s.size
    · by_cases ha : (s[pos]'hlt).toNat < 128
      · have hnx : ∀ ty, (Instr.next (.pointer (some ⟨w.heap.size, 0, none⟩)) true ty).run Tryz.prog wr = .ok (.tuple #[.bool true, .int .i64 pos, .int .i32 ((s[pos]'hlt).toNat : Int)]) (setIt wr w.heap.size s (pos + 1)) := fun ty => by
          have := next_at (P := Tryz.prog) ty HIT.out hlt
          rw [decode_ascii s pos hlt ha] at this
          exact this
        have HI2 : Hid ((setIt wr w.heap.size s (pos + 1)).heap[w.heap.size]? = some (.stringIter s (pos + 1))) := setIt_at hlt0
        have HN2 : Hid (Nw w (setIt wr w.heap.size s (pos + 1))) := setIt_nw HW.out (Nat.le_refl _)
        have HS2 : Hid (w.heap.size < (setIt wr w.heap.size s (pos + 1)).heap.size) := by show _ < _; unfold setIt; simpa using hlt0
        have HB1 : Hid (badB s[pos] = badN (s[pos]'hlt).toNat) := rfl
        have HGO : Hid (badN (s[pos]'hlt).toNat = false → (s.data.toList.take (pos + 1)).any badB = false) := fun h => any_step HAN.out (by omega) (fun j hj hjs => by
          have : j = 0 := by omega
          subst this
          exact h)
        have HFD : Hid (badN (s[pos]'hlt).toNat = true → badL s.data.toList = true) := fun h => by
          unfold badL
          rw [List.any_eq_true]
          exact ⟨s[pos], by rw [getB s pos hlt]; exact List.getElem_mem _, h⟩
        generalize (s[pos]'hlt).toNat = x at *
        generalize setIt wr w.heap.size s (pos + 1) = w2 at *
        clear HB1
        go_wp2_with fail
        refine Calls.mono (HBR.out _ x (by omega)) ?_
        rintro e w3 ⟨⟨k, rfl, hk⟩, k3⟩
        cases hb : badN x with
        | true =>
          have HY := HFD.out hb
          rw [hb] at hk
          have hk0 : 0 ≤ k := of_decide_eq_true hk
          have HX : Hid (badL s.data.toList = true) := HY
          have HN3 : Hid (Nw w w3) := Nw.trans HN2.out k3
          clear hk k3 HY
          go_wp2
          go_ret
          exact ⟨⟨_, rfl, by rw [HX.out]; exact decide_eq_true (by omega)⟩, HN3.out⟩
        | false =>
          have HY : Hid _ := HGO.out hb
          rw [hb] at hk
          have hk0 : ¬ (0 ≤ k) := of_decide_eq_false hk
          have HN3 : Hid (Nw w w3) := Nw.trans HN2.out k3
          have HI3 : Hid (w3.heap[w.heap.size]? = some (.stringIter s (pos + 1))) := (Below.block k3 _ HS2.out).trans HI2.out
          have HP3 : Hid (w3.iterPos w.heap.size = pos + 1) := by show _ = _; unfold World.iterPos; rw [HI3.out]
          clear hk k3
          go_wp2
          go_roundw
          case rel => exact ⟨pos + 1, by omega, HI3.out, HN3.out, HY.out⟩
          case measure => rw [HP3.out, HPO.out]; omega
      · obtain ⟨x, K, hd, hx1, hx2, hK1, hK2, hbs⟩ := rune_step hlt (by omega)
        have hnx : ∀ ty, (Instr.next (.pointer (some ⟨w.heap.size, 0, none⟩)) true ty).run Tryz.prog wr = .ok (.tuple #[.bool true, .int .i64 pos, .int .i32 (x : Int)]) (setIt wr w.heap.size s (pos + K)) := fun ty => by
          have := next_at (P := Tryz.prog) ty HIT.out hlt
          rw [hd] at this
          exact this
        have HI2 : Hid ((setIt wr w.heap.size s (pos + K)).heap[w.heap.size]? = some (.stringIter s (pos + K))) := setIt_at hlt0
        have HN2 : Hid (Nw w (setIt wr w.heap.size s (pos + K))) := setIt_nw HW.out (Nat.le_refl _)
        have HS2 : Hid (w.heap.size < (setIt wr w.heap.size s (pos + K)).heap.size) := by show _ < _; unfold setIt; simpa using hlt0
        have HY : Hid ((s.data.toList.take (pos + K)).any badB = false) := any_step HAN.out hK2 hbs
        have hb : badN x = false := badN_high hx1
        generalize setIt wr w.heap.size s (pos + K) = w2 at *
        clear hd hbs
        go_wp2_with fail
        refine Calls.mono (HBR.out _ x hx2) ?_
        rintro e w3 ⟨⟨k, rfl, hk⟩, k3⟩
        rw [hb] at hk
        have hk0 : ¬ (0 ≤ k) := of_decide_eq_false hk
        have HN3 : Hid (Nw w w3) := Nw.trans HN2.out k3
        have HI3 : Hid (w3.heap[w.heap.size]? = some (.stringIter s (pos + K))) := (Below.block k3 _ HS2.out).trans HI2.out
        have HP3 : Hid (w3.iterPos w.heap.size = pos + K) := by show _ = _; unfold World.iterPos; rw [HI3.out]
        clear hk k3 hb
        go_wp2
        go_roundw
        case rel => exact ⟨pos + K, by omega, HI3.out, HN3.out, HY.out⟩
        case measure => rw [HP3.out, HPO.out]; omega
    · have hnx := fun ty => next_end (P := Tryz.prog) ty HIT.out hlt
      have HX : Hid (badL s.data.toList = false) := by
        have h := HAN.out
        rw [List.take_of_length_le (by rw [data_len]; omega)] at h
        exact h
      go_wp2
      go_ret
      exact ⟨⟨_, rfl, by rw [HX.out]; rfl⟩, HW.out⟩
theorem iany (s : ByteArray) (w : World) (hs : s.size ≤ 1048576) : Calls Tryz.prog 144 #[.string s, .string ⟨#[59, 123, 125, 47, 33]⟩] w fun e w' => (∃ k : Int, e = .returned (.int .i64 k) ∧ decide (0 ≤ k) = badL s.data.toList) ∧ Nw w w' := by
  by_cases h8 : s.size ≤ 8
  · exact iany_short s w h8
  · refine (Tryz.strings_IndexAny_long (fun w => by kernel_rfl) s ⟨#[59, 123, 125, 47, 33]⟩ w (by decide) (by omega) (by omega) (by decide) (fun j b hb => bads_low b (List.mem_of_getElem? hb))).mono ?_
    rintro e w' ⟨rfl, rfl⟩
    exact ⟨⟨_, rfl, indexAny_bad _⟩, ((Below.refl _ _).alloc (Nat.le_refl _) _).alloc (by simp) _⟩
theorem icontains (s : ByteArray) (w : World) (hs : s.size ≤ 1048576) : Calls Tryz.prog 103 #[.string s, .string ⟨#[59, 123, 125, 47, 33]⟩] w fun e w' => e = .returned (.bool (badL s.data.toList)) ∧ Nw w w' := by
  have H : Hid (∀ W, Calls Tryz.prog 144 #[.string s, .string ⟨#[59, 123, 125, 47, 33]⟩] W fun e w' => (∃ k : Int, e = .returned (.int .i64 k) ∧ decide (0 ≤ k) = badL s.data.toList) ∧ Nw W w') := fun W => iany s W hs
  generalize (⟨#[59, 123, 125, 47, 33]⟩ : ByteArray) = S at *
  generalize badL s.data.toList = B at *
  go_enter Tryz.func103, Tryz.ntmps103
  go_wp2_with fail
  refine Calls.mono (H.out _) ?_
  rintro e w1 ⟨⟨k, rfl, hk⟩, k1⟩
  have HK : Hid (decide (0 ≤ k) = B) := hk
  clear hk
  go_wp2
  go_ret
  exact ⟨ret_bool HK.out, k1⟩
end Go.Proofs.YtnkmdmmlpidcmaaGreatDoor

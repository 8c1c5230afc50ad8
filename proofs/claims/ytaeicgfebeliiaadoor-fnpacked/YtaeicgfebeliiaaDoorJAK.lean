/-
  The program's books of codes: what bookOf makes; each theorem names its conditions.
  A block of the fixed codes is read by the program; each theorem names its conditions.
  What putDistance does; its conditions stand in the theorem.
  What a call has answered that made a list of bytes by appending; each theorem names its conditions.
-/
import Derived.Test.YtaeicgfebeliiaaDoorJAJ
import Derived.Test.YtaeicgfebeliiaaDoorJAH
import Derived.Test.YtaeicgfebeliiaaDoorJAG
import Derived.Test.YtaeicgfebeliiaaDoorJAF
import Derived.Test.YtaeicgfebeliiaaDoorJAE
import Derived.Deep.RegionHeld3
import Derived.Test.YtaeicgfebeliiaaDoorJAA
namespace Go.Proofs.YtaeicgfebeliiaaDoor
open Go.ChangeShapes Go.WideShapes Go.ChangeAt Go.RowKit
set_option linter.unusedVariables false

/-- A book that is being made, in the block B: the symbols l lie behind it. -/
structure BkB (B : Nat) (w : World) (T : Nat → Int) (v : Value) (l : List Int) : Prop where
  cnt : ∀ k, k < 16 → w.cell? ⟨B, k, none⟩ = some (.int .i64 (T k))
  c16 : w.cell? ⟨B, 16, none⟩ = some v
  free : ∀ o, w.frozen? ⟨B, o, none⟩ = false
  own : Ins w (B + 1) v l
  row : ∃ cur : Array Value, cur.size = 17 ∧ w.heap[B]? = some (.cells cur 89 (0, 0))
theorem BkB.lt {B : Nat} {w : World} {T : Nat → Int} {v : Value} {l : List Int} (h : BkB B w T v l) : B < w.heap.size := World.block_lt_of_cell? w ⟨B, 16, none⟩ h.c16
theorem BkB.ne {B : Nat} {w : World} {T : Nat → Int} {v : Value} {l : List Int} (h : BkB B w T v l) : v.ownBlock ≠ some B := fun e => by
  have := (World.ownsRow.lt h.own B e).1
  omega
theorem BkB.nw {B : Nat} {w w' : World} {T : Nat → Int} {v : Value} {l : List Int} (h : BkB B w T v l) (k : Nw w w') : BkB B w' T v l :=
  ⟨fun i hi => ((bcell k).1 _ _ h.lt).trans (h.cnt i hi), ((bcell k).1 _ _ h.lt).trans h.c16, fun o => ((bcell k).2 _ _ h.lt).trans (h.free o), h.own.nw k, by
    obtain ⟨cur, h1, h2⟩ := h.row
    exact ⟨cur, h1, (Below.block k B h.lt).trans h2⟩⟩
theorem BkB.new (w : World) (T : Nat → Int) : BkB w.heap.size (w.alloc (.cells #[.int .i64 (T 0), .int .i64 (T 1), .int .i64 (T 2), .int .i64 (T 3), .int .i64 (T 4), .int .i64 (T 5), .int .i64 (T 6), .int .i64 (T 7), .int .i64 (T 8), .int .i64 (T 9), .int .i64 (T 10), .int .i64 (T 11), .int .i64 (T 12), .int .i64 (T 13), .int .i64 (T 14), .int .i64 (T 15), .slice none 0 0] 89)) T (.slice none 0 0) [] := by
  refine ⟨fun l hl => ?_, by simp, fun o => World.frozen?_alloc_at _ _ _ _ rfl, Ins.nil _ _, ⟨_, rfl, heap_alloc_new w _⟩⟩
  rcases (show l = 0 ∨ l = 1 ∨ l = 2 ∨ l = 3 ∨ l = 4 ∨ l = 5 ∨ l = 6 ∨ l = 7 ∨ l = 8 ∨ l = 9 ∨ l = 10 ∨ l = 11 ∨ l = 12 ∨ l = 13 ∨ l = 14 ∨ l = 15 by omega) with rfl | rfl | rfl | rfl | rfl | rfl | rfl | rfl | rfl | rfl | rfl | rfl | rfl | rfl | rfl | rfl <;> simp
/-- What is there for the store. -/
theorem BkB.there {B : Nat} {w w' : World} {T : Nat → Int} {v v' : Value} {l : List Int} (h : BkB B w T v l) (k : Ext v v' w w') : w'.cell? ⟨B, 16, none⟩ = some v ∧ ∀ o, w'.frozen? ⟨B, o, none⟩ = false :=
  ⟨(Ext.cell k h.lt h.ne 16).trans h.c16, fun o => (World.frozen?_of_block (w := w) (a := ⟨B, o, none⟩) (k.1.block B h.lt (fun e => h.ne e.symm))).trans (h.free o)⟩
theorem BkB.put {B : Nat} {w w' : World} {T : Nat → Int} {v v' : Value} {l l' : List Int} (h : BkB B w T v l) (k : Ext v v' w w') (ho : Ins w' (B + 1) v' l') : BkB B (w'.setCell ⟨B, 16, none⟩ v') T v' l' ∧ Below B w (w'.setCell ⟨B, 16, none⟩ v') := by
  have hb := h.lt
  have hne2 : v'.ownBlock ≠ some B := Ext.apart k hb h.ne
  obtain ⟨t0, tf⟩ := h.there k
  refine ⟨⟨fun i hi => ?_, World.cell?_setCell_same w' ⟨B, 16, none⟩ _ t0, fun o => by rw [World.frozen?_setCell]; exact tf o, World.ownsRow.kept ho set_grown (Or.inr hne2), ?_⟩, ?_⟩
  · rw [World.cell?_setCell_other _ _ _ _ (fun e => by injection e; omega)]
    exact (Ext.cell k hb h.ne i).trans (h.cnt i hi)
  · obtain ⟨cur, h1, h2⟩ := h.row
    have h3 : w'.heap[B]? = some (.cells cur 89 (0, 0)) := (k.1.block B hb (fun e => h.ne e.symm)).trans h2
    rw [setCell_eq_setRow w' B 16 cur 89 (0, 0) v' h3]
    exact ⟨_, by simpa using h1, setRow_heap w' B cur _ 89 (0, 0) h3⟩
  · exact (k.below (fun g e => Nat.le_of_succ_le (World.ownsRow.lt h.own g e).1) (by omega)).setCell (Nat.le_refl _) _
theorem below_row {B g : Nat} {w0 w : World} (hb : Below B w0 w) (hBg : B ≤ g) (cs : Array Value) : Below B w0 (w.setRow g cs) :=
  ⟨hb.os, hb.tape, hb.output, by rw [setRow_size]; exact hb.size, fun k hk => by rw [setRow_other w g k cs (by omega)]; exact hb.block k hk⟩
theorem Ins.base {w : World} {B B' : Nat} {v : Value} {l : List Int} (h : Ins w B v l) (hB : B' ≤ B) : Ins w B' v l := by
  refine ⟨h.1, ?_⟩
  rcases h.2 with hn | ⟨g, cap, cur, h1, h2, h3⟩
  · exact Or.inl hn
  · exact Or.inr ⟨g, cap, cur, h1, by omega, h3⟩
theorem Ins.form {w : World} {B : Nat} {v : Value} {l : List Int} (h : Ins w B v l) : ∃ a c, v = .slice a l.length c := by
  rcases h.lay with ⟨rfl, rfl⟩ | ⟨g, c, rfl, _⟩
  · exact ⟨none, 0, rfl⟩
  · exact ⟨_, c, rfl⟩
theorem ofLen_le (xs : List Int) (l n : Nat) : (ofLen xs l n).length ≤ n := by
  unfold ofLen
  have := List.length_filter_le (fun k => decide (xs.getD k 0 = (l : Int))) (List.range n)
  rw [List.length_range] at this
  exact this
theorem booked_le (xs : List Int) (hx : xs.length ≤ 300) (l : Nat) : (booked xs l).length ≤ 300 * l := by
  induction l with
  | zero => exact Nat.le_refl _
  | succ l ih =>
    show (booked xs l ++ ofLen xs (l + 1) xs.length).length ≤ _
    have := ofLen_le xs (l + 1) xs.length
    rw [List.length_append]; omega
theorem ints_app (a b : List Nat) : ints (a ++ b) = ints a ++ ints b := by simp [ints]
set_option maxRecDepth 100000 in
set_option maxHeartbeats 8000000 in
theorem bookOf_any (w : World) (b cap : Nat) (zs : List Int) (hf : fit zs = true) (hb : b < w.heap.size) (hc : ∀ i, i < zs.length → w.cell? ⟨b, 0 + i, none⟩ = some (.int .i64 (zs.getD i 0))) (T : Nat → Int) (hT : ∀ k, T k = cn zs zs.length k) :
    Calls Tryd.prog 51 #[.slice (some ⟨b, 0, none⟩) zs.length cap] w fun e w' => ∃ v, e = .returned (.agg #[.int .i64 (T 0), .int .i64 (T 1), .int .i64 (T 2), .int .i64 (T 3), .int .i64 (T 4), .int .i64 (T 5), .int .i64 (T 6), .int .i64 (T 7), .int .i64 (T 8), .int .i64 (T 9), .int .i64 (T 10), .int .i64 (T 11), .int .i64 (T 12), .int .i64 (T 13), .int .i64 (T 14), .int .i64 (T 15), v]) ∧ Ins w' w.heap.size v (ints (booked zs 15)) ∧ Nw w w' := by
  have hl := fit_len hf
  have HF : Hid _ := hf
  have HC : Hid _ := hc
  have hTT : (fun k => cn zs zs.length k) = T := funext fun k => (hT k).symm
  have HCnt : ∀ W, b < W.heap.size → (∀ i, i < zs.length → W.cell? ⟨b, 0 + i, none⟩ = some (.int .i64 (zs.getD i 0))) → Calls Tryd.prog 44 #[.slice (some ⟨b, 0, none⟩) zs.length cap] W fun e w' => e = .returned (.agg #[.int .i64 (T 0), .int .i64 (T 1), .int .i64 (T 2), .int .i64 (T 3), .int .i64 (T 4), .int .i64 (T 5), .int .i64 (T 6), .int .i64 (T 7), .int .i64 (T 8), .int .i64 (T 9), .int .i64 (T 10), .int .i64 (T 11), .int .i64 (T 12), .int .i64 (T 13), .int .i64 (T 14), .int .i64 (T 15)]) ∧ Kp W w' := by
    intro W h1 h2
    have h := count_any W b 0 cap zs hf h1 h2
    rw [show tab 16 (cn zs zs.length) = tab 16 T from congrArg (tab 16) hTT, tab16] at h
    exact h
  have HK : Hid _ := HCnt
  clear hc hf HCnt hTT hT
  go_enter Tryd.func51, Tryd.ntmps51
  go_wp2_with fail
  refine Calls.mono (HK.out _ (by simp; omega) (fun i hi => by rw [World.cell?_alloc_past _ _ _ hb]; exact HC.out i hi)) ?_
  rintro e w2 ⟨rfl, k2⟩
  obtain ⟨R, hR⟩ : ∃ R, w.heap.size = R := ⟨_, rfl⟩
  have S2 : R < w2.heap.size := by have := k2.size; simp at this; omega
  have NW2 : Hid (Nw w w2) := Nw.trans ((Below.refl _ _).alloc (Nat.le_refl _) _) k2.nw
  have HRR : Hid (w.heap.size = R) := hR
  have r0 : ∃ Z : Array Value, Z.size = 17 ∧ w2.heap[R]? = some (.cells Z 89 (0, 0)) := by
    rw [← hR]
    refine ⟨_, ?_, (Below.block k2.nw w.heap.size (by simp)).trans (heap_alloc_new w _)⟩
    rfl
  have R0 : Hid _ := r0
  rw [hR]
  clear r0 hR k2
  obtain ⟨B, hB⟩ : ∃ B, w2.heap.size = B := ⟨_, rfl⟩
  obtain ⟨W3, hW3⟩ : ∃ W, w2.alloc (.cells #[.int .i64 (T 0), .int .i64 (T 1), .int .i64 (T 2), .int .i64 (T 3), .int .i64 (T 4), .int .i64 (T 5), .int .i64 (T 6), .int .i64 (T 7), .int .i64 (T 8), .int .i64 (T 9), .int .i64 (T 10), .int .i64 (T 11), .int .i64 (T 12), .int .i64 (T 13), .int .i64 (T 14), .int .i64 (T 15), .slice none 0 0] 89) = W := ⟨_, rfl⟩
  have BK : Hid (BkB B W3 T (.slice none 0 0) []) := by show BkB _ _ _ _ _; rw [← hW3, ← hB]; exact BkB.new _ _
  have NW3 : Hid (Nw w2 W3) := by show Nw _ _; rw [← hW3]; exact (Below.refl _ _).alloc (Nat.le_refl _) _
  have HW3 : Hid (_ = W3) := hW3
  have HBB : Hid (w2.heap.size = B) := hB
  have hRB : R < B := by omega
  have hbR : b < R := by rw [← HRR.out]; exact hb
  have HCW : Hid (∀ i, i < zs.length → W3.cell? ⟨b, i, none⟩ = some (.int .i64 (zs.getD i 0))) := fun i hi => by
    have h := HC.out i hi
    rw [Nat.zero_add] at h
    rw [(bcell NW3.out).1 b i (by rw [HBB.out]; omega), (bcell NW2.out).1 b i hb]; exact h
  clear hW3 S2
  go_wp2
  rw [HW3.out]
  have HBel0 : Hid (Below B W3 W3) := Below.refl _ _
  go_loopw [4] (fun i wr => ∃ (l : Nat) (v : Value), l ≤ 15 ∧ i = .int .i64 ((l + 1 : Nat) : Int) ∧ BkB B wr T v (ints (booked zs l)) ∧ Below B W3 wr) (fun i _ => 17 - (intOf i).toNat)
  case atStart => exact ⟨0, _, by omega, rfl, BK.out, HBel0.out⟩
  case round =>
    obtain ⟨l, v, hl15, rfl, bk, bel⟩ := hrel
    have HBK : Hid (BkB B wr T v (ints (booked zs l))) := bk
    have HBL : Hid (Below B W3 wr) := bel
    clear bk bel BK
    by_cases hlt : l < 15
    · have d15 : decide ((l : Int) + 1 ≤ 15) = true := by simp; omega
      generalize hwr : wr = w5 at *
      go_wp2
      go_loopw [16] (fun i wr => ∃ (n : Nat) (v : Value), n ≤ zs.length ∧ i = .int .i64 (n : Int) ∧ BkB B wr T v (ints (booked zs l ++ ofLen zs (l + 1) n)) ∧ Below B W3 wr) (fun i _ => zs.length - (intOf i).toNat)
      case atStart => exact ⟨0, v, Nat.zero_le _, rfl, by rw [show ofLen zs (l + 1) 0 = [] from rfl, List.append_nil]; exact HBK.out, HBL.out⟩
      case round =>
        clear HBK HBL hwr
        obtain ⟨n, v2, hn, rfl, bk2, bel2⟩ := hrel
        obtain ⟨sa, sc, rfl⟩ := Ins.form bk2.own
        have HBK : Hid _ := bk2
        have HBL : Hid (Below B W3 wr) := bel2
        have hBw := bk2.lt
        by_cases hn2 : n < zs.length
        · have c0 : wr.cell? ⟨b, n, none⟩ = some (.int .i64 (zs.getD n 0)) := by
            rw [bel2.cell (p := ⟨b, n, none⟩) (by show b < B; omega)]; exact HCW.out n hn2
          have c16 := bk2.c16
          clear bk2 bel2
          obtain ⟨x, hx⟩ : ∃ x, zs.getD n 0 = x := ⟨_, rfl⟩
          rw [hx] at c0
          by_cases hxl : x = ((l + 1 : Nat) : Int)
          · have HO : Hid (ofLen zs (l + 1) (n + 1) = ofLen zs (l + 1) n ++ [n]) := ofLen_yes zs (l + 1) n (by rw [hx]; exact hxl)
            have hlen : (ints (booked zs l ++ ofLen zs (l + 1) n)).length ≤ 10000000 := by
              rw [ints_len, List.length_append]
              have h1 := booked_le zs hl l
              have h2 := ofLen_le zs (l + 1) n
              omega
            have hq : (x == ((l + 1 : Nat) : Int)) = true := by rw [beq_iff_eq]; exact hxl
            have HE : Hid (ints (booked zs l ++ ofLen zs (l + 1) (n + 1)) = ints (booked zs l ++ ofLen zs (l + 1) n) ++ [(n : Int)]) := by
              show _ = _
              rw [HO.out, ← List.append_assoc, ints_app]; rfl
            have HB0 : ∀ o, Hid (Nw wr (wr.alloc o)) := fun o => (Below.refl _ _).alloc (Nat.le_refl _) o
            generalize ints (booked zs l ++ ofLen zs (l + 1) n) = L at *
            generalize ((l + 1 : Nat) : Int) = L1 at *
            clear hx hxl
            go_wp2_with (at_builtin; (refine wp_in _ rfl _ _ rfl (B + 1) _ L (n : Int) rfl (HBK.out.own.nw (HB0 _).out) _ rfl ?c1 hlen ?c3 ?_))
            case c1 => simp
            case c3 => exact Nat.le_trans hBw (Below.size (HB0 _).out)
            intro v' w' h1 h2
            have hbk := HBK.out.nw (HB0 (.cells #[.int .i64 (n : Int)] 3)).out
            obtain ⟨t0, tf⟩ := hbk.there h2
            obtain ⟨p1, p2⟩ := hbk.put h2 h1
            have P1 : Hid _ := p1
            have P2 : Hid (Below B W3 (w'.setCell ⟨B, 16, none⟩ v')) := HBL.out.trans ((Below.mono (HB0 _).out (by omega)).trans p2)
            obtain ⟨sa', sc', ev⟩ := Ins.form h1
            rw [show (L ++ [(n : Int)]).length = L.length + 1 by simp] at ev
            subst ev
            have tf16 := tf 16
            clear p1 p2 hbk tf h1 h2
            go_wp2
            go_roundw
            case rel => exact ⟨n + 1, _, by omega, by go_num, by rw [HE.out]; exact P1.out, P2.out⟩
            case measure => simp [intOf]; omega
          · have HO : Hid (ofLen zs (l + 1) (n + 1) = ofLen zs (l + 1) n) := ofLen_no zs (l + 1) n (by rw [hx]; exact hxl)
            have hq : (x == ((l + 1 : Nat) : Int)) = false := by rw [beq_eq_false_iff_ne]; exact hxl
            generalize ((l + 1 : Nat) : Int) = L1 at *
            clear hx hxl
            go_wp2
            go_roundw
            case rel => exact ⟨n + 1, _, by omega, by go_num, by rw [HO.out]; exact HBK.out, HBL.out⟩
            case measure => simp [intOf]; omega
        · have e : n = zs.length := by omega
          have HBK2 : Hid (BkB B wr T (.slice sa (ints (booked zs l ++ ofLen zs (l + 1) n)).length sc) (ints (booked zs (l + 1)))) := by
            show BkB _ _ _ _ _
            have h := HBK.out
            have e2 : booked zs (l + 1) = booked zs l ++ ofLen zs (l + 1) zs.length := rfl
            rw [e2, ← e]; exact h
          clear bk2 bel2
          subst e
          go_wp2
          go_roundw
          case rel => exact ⟨l + 1, _, by omega, by go_num, HBK2.out, HBL.out⟩
          case measure => simp [intOf]; omega
    · have e : l = 15 := by omega
      subst e
      obtain ⟨C, hCs, hCB⟩ := HBK.out.row
      have hv1 : v.oneCell' = true := by
        obtain ⟨sa, sc, rfl⟩ := Ins.form HBK.out.own; rfl
      have hC : C = #[Value.int .i64 (T 0), .int .i64 (T 1), .int .i64 (T 2), .int .i64 (T 3), .int .i64 (T 4), .int .i64 (T 5), .int .i64 (T 6), .int .i64 (T 7), .int .i64 (T 8), .int .i64 (T 9), .int .i64 (T 10), .int .i64 (T 11), .int .i64 (T 12), .int .i64 (T 13), .int .i64 (T 14), .int .i64 (T 15), v] := by
        apply Array.ext_getElem?
        intro j
        by_cases h16 : j < 16
        · have h := HBK.out.cnt j h16
          rw [cell_of_row wr B j C _ _ hCB] at h
          rw [h]
          rcases (show j = 0 ∨ j = 1 ∨ j = 2 ∨ j = 3 ∨ j = 4 ∨ j = 5 ∨ j = 6 ∨ j = 7 ∨ j = 8 ∨ j = 9 ∨ j = 10 ∨ j = 11 ∨ j = 12 ∨ j = 13 ∨ j = 14 ∨ j = 15 by omega) with rfl | rfl | rfl | rfl | rfl | rfl | rfl | rfl | rfl | rfl | rfl | rfl | rfl | rfl | rfl | rfl <;> rfl
        · by_cases h17 : j = 16
          · subst h17
            have h := HBK.out.c16
            rw [cell_of_row wr B 16 C _ _ hCB] at h
            rw [h]; rfl
          · rw [Array.getElem?_eq_none (by omega), Array.getElem?_eq_none (by show 17 ≤ j; omega)]
      have hC1 : C.all (·.oneCell') = true := by rw [hC]; simp [Value.oneCell'] <;> exact hv1
      obtain ⟨Z, hZs, hZ⟩ := R0.out
      have hZr : wr.heap[R]? = some (.cells Z 89 (0, 0)) := by
        rw [HBL.out.block R (by omega), Below.block NW3.out R (by rw [HBB.out]; omega)]; exact hZ
      have HRow : Hid _ := setRow_heap wr R Z C 89 (0, 0) hZr
      have HCC : Hid (C = _) := hC
      have HNW : Hid (Nw w (wr.setRow R C)) := by
        show Below w.heap.size w (wr.setRow R C)
        refine below_row (Below.trans NW2.out (Below.mono (Below.trans (NW3.out) (Below.mono HBL.out ?_)) ?_)) (by rw [HRR.out]; exact Nat.le_refl _) C
        · exact Nat.le_of_eq HBB.out
        · exact Below.size NW2.out
      have HIN : Hid (Ins (wr.setRow R C) w.heap.size v (ints (booked zs 15))) := by
        show Ins _ _ _ _
        refine Ins.base (B := B + 1) (World.ownsRow.kept HBK.out.own (row := some R) ⟨rfl, rfl, rfl, by rw [setRow_size]; exact Nat.le_refl _, fun i hi hne => setRow_other wr R i C (fun e => hne (by rw [e]))⟩ (Or.inr ?_)) (by rw [HRR.out]; omega)
        intro e
        have := (World.ownsRow.lt HBK.out.own R e).1
        omega
      have hiC : (Tryd.prog.info? 89).map (·.size) = some C.size := by rw [hCs]; kernel_rfl
      have hst := run_storeCells_from (P := Tryd.prog) R 89 C.toList 0 Z wr hZr (by rw [hZs, ← hCs]; simp) (fun u hu => Array.all_eq_true_iff_forall_mem.1 hC1 u (by simpa using hu))
      rw [List.take_zero, List.nil_append, Array.toArray_toList] at hst
      obtain ⟨W9, hW9⟩ : ∃ W, wr.setRow R C = W := ⟨_, rfl⟩
      rw [hW9] at hst HRow HNW HIN
      have HIC : Hid _ := hiC
      clear hC hv1 hZ hZr hC1 hW9
      go_wp2_with (refine wpList_load_row rfl 89 _ rfl B rfl 89 C _ _ hCB Tryd.underlying89 rfl hiC ?_)
      refine bodyPost_ret (v := .agg C) ?_ rfl ⟨v, ?_, HIN.out, HNW.out⟩
      · exact results_cell_row Tryd.results51 _ _ R 89 C (0, 0) _ rfl HRow.out Tryd.underlying89 rfl HIC.out
      · rw [HCC.out]
end Go.Proofs.YtaeicgfebeliiaaDoor
namespace Go.Proofs.YtaeicgfebeliiaaDoor
open Go.ChangeShapes Go.WideShapes Go.ChangeAt Go.RowKit
set_option linter.unusedVariables false

theorem Src.ext {w w' : World} {S b cap : Nat} {ds : List Nat} {t : Nat} {v v' : Value} (h : Src w S b cap ds t) (k : Ext v v' w w') (h1 : v.ownBlock ≠ some S) (h2 : v.ownBlock ≠ some b) (h3 : b < w.heap.size) : Src w' S b cap ds t :=
  ⟨(Ext.cell k h.lt h1 0).trans h.c0, (Ext.cell k h.lt h1 1).trans h.c1, fun o => (World.frozen?_of_block (w := w) (a := ⟨S, o, none⟩) (k.1.block S h.lt (fun e => h1 e.symm))).trans (h.fr o), h.ne, fun i hi => (Ext.cell k h3 h2 i).trans (h.dat i hi)⟩
theorem Gr.ext {S : Nat} {W w w' : World} {v v' : Value} (h : Gr S W w) (k : Ext v v' w w') (hv : ∀ g, v.ownBlock = some g → W.heap.size ≤ g) : Gr S W w' :=
  ⟨k.1.os.trans (World.grownBy.os h), k.1.tape.trans (World.grownBy.tape h), k.1.output.trans (World.grownBy.output h), Nat.le_trans h.size k.1.size, fun i hi hne => (k.1.block i (Nat.lt_of_lt_of_le hi h.size) (fun e => by have := hv i e.symm; omega)).trans (World.grownBy.block h i hi hne)⟩
theorem Own.gr {w w' : World} {B S : Nat} {v : Value} {zs : List Int} (h : Own w B v zs) (k : Gr S w w') (hS : S < B) : Own w' B v zs :=
  World.ownsRow.kept h k (Or.inr fun e => by have := (Own.lt h S e).1; omega)
theorem syF_len : syF.length = 288 := by decide +kernel
theorem syD_len : syD.length = 32 := by decide +kernel
theorem own_ne {w : World} {B x : Nat} {v : Value} {zs : List Int} (h : Own w B v zs) (hx : x < B) : v.ownBlock ≠ some x := fun e => by have := (Own.lt h x e).1; omega
/-- What an append to the list leaves. -/
theorem lay_step {S b cap t B2 : Nat} {ds : List Nat} {W2 w2 wa w' : World} {v v' : Value} {L : List Int} (hB : W2.heap.size = B2) (hS : S < B2) (hb : b < B2) (s2 : Src w2 S b cap ds t) (g2 : Gr S W2 w2) (o2 : Own w2 B2 v L) (n : Nw w2 wa) (k : Ext v v' wa w') : Src w' S b cap ds t ∧ Gr S W2 w' := by
  have hbw : b < w2.heap.size := by have := g2.size; omega
  exact ⟨(s2.nw n hbw).ext k (own_ne o2 hS) (own_ne o2 hb) (Nat.lt_of_lt_of_le hbw (Below.size n)), (g2.trans (Gr.of_nw n)).ext k (fun g e => by rw [hB]; exact (Own.lt o2 g e).1)⟩
/-- How long a list is that is held as a value. -/
def slLen : Value → Nat
  | .slice _ n _ => n
  | _ => 0
theorem heap_gr {S : Nat} {a b : World} (h : Gr S a b) {g : Nat} (hg : g < a.heap.size) (hne : g ≠ S) : b.heap[g]? = a.heap[g]? := World.grownBy.block h g hg (fun e => hne (Option.some.inj e))
set_option maxRecDepth 100000 in
set_option maxHeartbeats 8000000 in
theorem unpackCoded_any (w : World) (S b cap : Nat) (ds : List Nat) (zs : List Int) (J : Nat) (hJ : Ends zs J) (hzl : zs.length ≤ 6000) (hz8 : ∀ i, i < zs.length → 0 ≤ zs.getD i 0 ∧ zs.getD i 0 ≤ 255) (hk : Bks zs J ds) (hl : ds.length ≤ 100000) (gF cF gD cD : Nat) (CF CD : Array Value) (hCF : bookV cnF gF 288 cF = .agg CF) (hCD : bookV cnD gD 32 cD = .agg CD) (zF : CF.size = 17) (zD : CD.size = 17) (hT : Tabs w) (hS4 : 4 ≤ S) (hs : Src w S b cap ds 3) (hb : b < w.heap.size) (hgF : SyAt w gF syF) (hgFS : gF ≠ S) (hgD : SyAt w gD syD) (hgDS : gD ≠ S) :
    Calls Tryd.prog 50 #[.iface 47 (.pointer (some ⟨S, 0, none⟩)), .slice none 0 0, .agg CF, .agg CD] w fun e w' => ∃ v, e = .returned (.tuple #[v, .int .i64 0]) ∧ Own w' w.heap.size v zs ∧ Src w' S b cap ds ((acc zs J).length + 7) ∧ Gr S w w' := by
  have hSw := hs.lt
  obtain ⟨W1, hW1⟩ : ∃ W, w.alloc (.cells CF 89) = W := ⟨_, rfl⟩
  have hz1 : W1.heap.size = w.heap.size + 1 := by rw [← hW1]; simp
  obtain ⟨W2, hW2⟩ : ∃ W, W1.alloc (.cells CD 89) = W := ⟨_, rfl⟩
  have hz2 : W2.heap.size = w.heap.size + 2 := by rw [← hW2]; simp; omega
  have n1 : Nw w W1 := by rw [← hW1]; exact (Below.refl _ _).alloc (Nat.le_refl _) _
  have n2 : Nw W1 W2 := by rw [← hW2]; exact (Below.refl _ _).alloc (Nat.le_refl _) _
  have NW : Hid (Nw w W2) := Nw.trans n1 n2
  have RF : Hid (W2.heap[w.heap.size]? = some (.cells CF 89 (0, 0))) := by
    show _ = _
    rw [Below.block n2 _ (by omega), ← hW1]; exact heap_alloc_new w _
  have RD : Hid (W2.heap[W1.heap.size]? = some (.cells CD 89 (0, 0))) := by
    show _ = _
    rw [← hW2]; exact heap_alloc_new W1 _
  have HS2 : Hid (Src W2 S b cap ds (acc zs 0).length) := hs.nw NW.out hb
  have HSY : Hid (∀ wr, Gr S W2 wr → SyAt wr gF syF ∧ SyAt wr gD syD ∧ Tabs wr) := fun wr k => by
    have k0 := (Gr.of_nw (B := S) NW.out).trans k
    exact ⟨hgF.gr k0 hgFS, hgD.gr k0 hgDS, hT.gr k0 hS4 hSw⟩
  have HRW : Hid (∀ wr, Gr S W2 wr → wr.heap[w.heap.size]? = some (.cells CF 89 (0, 0)) ∧ wr.heap[W1.heap.size]? = some (.cells CD 89 (0, 0))) := fun wr k =>
    ⟨(heap_gr k (by omega) (by omega)).trans RF.out, (heap_gr k (by omega) (by omega)).trans RD.out⟩
  have HJ : Hid (Ends zs J) := hJ
  have HZ8 : Hid _ := hz8
  have HK : Hid (Bks zs J ds) := hk
  have h8 := hk.h8
  have H8 : Hid _ := h8
  have HCF : Hid _ := hCF
  have HCD : Hid _ := hCD
  have hiF : (Tryd.prog.info? 89).map (·.size) = some CF.size := by rw [zF]; kernel_rfl
  have hiD : (Tryd.prog.info? 89).map (·.size) = some CD.size := by rw [zD]; kernel_rfl
  have HSym : Hid (∀ (W : World) (t x : Nat), x < 288 → Gr S W2 W → Src W S b cap ds t → t + fn x ≤ 8 * ds.length → (∀ i, i < fn x → btA ds (t + i) = (codeOf (fc x) (fn x)).getD i 0) → Calls Tryd.prog 78 #[.agg CF, .iface 47 (.pointer (some ⟨S, 0, none⟩))] W fun e w' => e = .returned (.tuple #[.int .i64 x, .int .i64 0]) ∧ Src w' S b cap ds (t + fn x) ∧ Gr S W w') := by
    intro W t x hx hg hs ht hbt
    have h := takeSymbol_any W S b cap ds t cnF gF cF syF (fc x) (fn x) x hl h8 cnF_le (fndF x hx) (fc_pow x hx) hs (by have := hg.size; omega) (HSY.out W hg).1 hgFS ht hbt
    rw [syF_len, hCF] at h
    exact h
  have HMat : Hid (∀ (W : World) (t k kd n f : Nat), k ≤ 28 → kd ≤ 29 → Gr S W2 W → Src W S b cap ds t → t + LE k + 5 + DE kd ≤ 8 * ds.length → (∀ i, i < 5 → btA ds (t + LE k + i) = (codeOf kd 5).getD i 0) → LB k + rdN ds t (LE k) = n → DB kd + rdN ds (t + LE k + 5) (DE kd) = f → Calls Tryd.prog 79 #[.iface 47 (.pointer (some ⟨S, 0, none⟩)), .int .i64 ((257 + k : Nat) : Int), .agg CD] W fun e w' => e = .returned (.tuple #[.int .i64 (n : Int), .int .i64 (f : Int), .int .i64 0]) ∧ Src w' S b cap ds (t + LE k + 5 + DE kd) ∧ Gr S W w') := by
    intro W t k kd n f hk1 hk2 hg hs ht hbt e1 e2
    have h := takeMatch_any W S b cap ds t cnD gD cD syD kd 5 k kd hl h8 cnD_le (fndD kd (by omega)) (by show kd < 32; omega) hs (by have := hg.size; omega) (HSY.out W hg).2.1 hgDS (HSY.out W hg).2.2 hS4 hk1 hk2 ht hbt
    rw [syD_len, hCD, e1, e2] at h
    exact h
  have HW1 : Hid (_ = W1) := hW1
  have HW2 : Hid (_ = W2) := hW2
  have hSB : S < W2.heap.size := by omega
  have hbB : b < W2.heap.size := by omega
  obtain ⟨B2, hB2⟩ : ∃ B, W2.heap.size = B := ⟨_, rfl⟩
  have HB2 : Hid (W2.heap.size = B2) := hB2
  obtain ⟨B0, hB0⟩ : ∃ B, w.heap.size = B := ⟨_, rfl⟩
  have HB0 : Hid (w.heap.size = B0) := hB0
  rw [hB2] at hSB hbB
  rw [hz1, hB0] at HRW
  rw [hB0]
  clear hs hgF hgD hT hJ hz8 hk h8 hCF hCD hW1 hW2 RF RD n1 n2 zF zD hl hb hSw
  go_enter Tryd.func50, Tryd.ntmps50
  go_wp2
  rw [HW1.out, HW2.out]
  go_loopw [1] (fun v wr => ∃ j : Nat, j ≤ J ∧ Own wr B2 v (zs.take (pos zs j)) ∧ Src wr S b cap ds (acc zs j).length ∧ Gr S W2 wr) (fun v _ => zs.length - slLen v)
  case atStart => exact ⟨0, Nat.zero_le _, Own.nil _ _, HS2.out, Gr.refl _ _⟩
  case round =>
    obtain ⟨j, hj, ho, hs, hg⟩ := hrel
    have HO : Hid (Own wr B2 _ (zs.take (pos zs j))) := ho
    have HS : Hid (Src wr S b cap ds (acc zs j).length) := hs
    have HG : Hid (Gr S W2 wr) := hg
    obtain ⟨sa, sc, rfl⟩ := ho.shape
    have hgs := hg.size
    rw [HB2.out] at hgs
    have hrF := (HRW.out wr hg).1
    obtain ⟨p, hp⟩ : ∃ p, pos zs j = p := ⟨_, rfl⟩
    have hpl : p ≤ zs.length := by rw [← hp]; exact (acc_bd zs J HJ.out j hj).1
    have hLl : (zs.take (pos zs j)).length = p := by rw [hp, List.length_take]; omega
    have HLl : Hid ((zs.take (pos zs j)).length = p) := hLl
    rw [hLl]
    rw [hLl] at HO
    clear ho hs hg HS2 hLl
    by_cases hlt : j < J
    · have hpz := HJ.out.2 j hlt
      rw [hp] at hpz
      have h6 : ((p : Int) == 6000) = false := by rw [beq_eq_false_iff_ne]; omega
      by_cases hm : mtA zs (pos zs j) = 0
      · obtain ⟨x, hx⟩ := Int.eq_ofNat_of_zero_le (HZ8.out p hpz).1
        have hx8 := (HZ8.out p hpz).2
        rw [hx] at hx8
        obtain ⟨l1, l2, l3⟩ := HK.out.lit j hlt hm x (by rw [hp]; exact hx)
        have HC : Hid _ := HSym.out wr _ x (by omega) HG.out HS.out l2 l3
        obtain ⟨t1, t2⟩ := lit_take HJ.out j hlt hm
        rw [hp] at t1 t2
        rw [hx] at t1
        have HT1 : Hid _ := t1
        have HT2 : Hid _ := t2
        have HL1 : Hid _ := l1
        have x1 : ((x : Int) == 256) = false := by rw [beq_eq_false_iff_ne]; omega
        have x2 : decide ((x : Int) < 256) = true := by simp; omega
        have x3 : IntKind.u8.wrap (x : Int) = (x : Int) := by rw [IntKind.wrap_u8]; omega
        clear hx hx8 l1 l2 l3 t1 t2 hm
        go_wp2_with (refine wpList_load_row rfl 89 _ rfl B0 rfl 89 CF _ _ hrF Tryd.underlying89 rfl hiF ?_)
        refine Calls.mono HC.out ?_
        rintro e w2 ⟨rfl, s2, g2⟩
        have O2 : Hid (Own w2 B2 (.slice sa p sc) (zs.take (pos zs j))) := Own.gr HO.out g2 hSB
        have S2 : Hid (Src w2 S b cap ds ((acc zs j).length + fn x)) := s2
        have G2 : Hid (Gr S W2 w2) := HG.out.trans g2
        have hsz : B2 ≤ w2.heap.size := by have := g2.size; omega
        have HN : ∀ o, Hid (Nw w2 (w2.alloc o)) := fun o => (Below.refl _ _).alloc (Nat.le_refl _) o
        have hol : (zs.take (pos zs j)).length ≤ 1000000 := by rw [HLl.out]; omega
        rw [hp] at O2 HLl hol
        clear s2 g2 HO HS HG hrF
        generalize zs.take p = L at *
        go_wp2_with (at_builtin; (refine wp_b _ rfl _ _ rfl B2 _ L (x : Int) rfl (Own.nw O2.out (HN _).out) _ rfl ?c1 hol ?c3 ?_))
        case c1 => simp
        case c3 => exact Nat.le_trans hsz (Below.size (HN _).out)
        intro v' w' h1 h2
        obtain ⟨s3, g3⟩ := lay_step HB2.out hSB hbB S2.out G2.out O2.out (HN _).out h2
        have O3 : Hid (Own w' B2 v' (zs.take (pos zs (j + 1)))) := by show Own _ _ _ _; rw [HT1.out]; exact h1
        have S3 : Hid (Src w' S b cap ds (acc zs (j + 1)).length) := by show Src _ _ _ _ _ _; rw [HL1.out]; exact s3
        have G3 : Hid (Gr S W2 w') := g3
        have hLL : (L ++ [(x : Int)]).length = p + 1 := by rw [List.length_append, HLl.out]; rfl
        obtain ⟨sa', sc', ev⟩ := Own.shape h1
        rw [hLL] at ev
        subst ev
        clear s3 g3 h1 h2
        go_wp2
        go_roundw
        case rel => exact ⟨j + 1, hlt, O3.out, S3.out, G3.out⟩
        case measure => simp [slLen]; omega
      · obtain ⟨n, hn⟩ : ∃ n, mtA zs (pos zs j) = n := ⟨_, rfl⟩
        obtain ⟨f, hf⟩ : ∃ f, mtB zs (pos zs j) = f := ⟨_, rfl⟩
        obtain ⟨m1, m2, m3, m4, m5, m6⟩ := HK.out.mat hzl j hlt (by omega) n f hm hn hf
        rcases mt_bd zs (pos zs j) (by omega) with e0 | ⟨b1, b2, b3, b4, b5⟩
        · exact absurd e0 hm
        obtain ⟨t1, t2⟩ := mat_take HJ.out j hlt hm
        rw [hn, hf] at t1
        rw [hn] at t2 b1 b2 b3
        rw [hf] at b4 b5
        rw [hp] at t1 t2 b3 b5
        have hk28 := (lp_more n b1 b2).2.2
        have hk29 := (dp_more f b4 (by omega)).2.2
        have HC : Hid _ := HSym.out wr _ (257 + lp n) (by omega) HG.out HS.out (by omega) m3
        have HM : Hid (∀ W, Gr S W2 W → Src W S b cap ds ((acc zs j).length + fn (257 + lp n)) → _) := fun W hg hs => HMat.out W ((acc zs j).length + fn (257 + lp n)) (lp n) (dp f) n f hk28 hk29 hg hs m2 m5 m4 m6
        have HL1 : Hid _ := m1
        have HT1 : Hid _ := t1
        have HT2 : Hid _ := t2
        have HLt : Hid (LE (lp n) + 5 + DE (dp f) = LE (lp n) + 5 + DE (dp f)) := rfl
        generalize hk0 : lp n = k at *
        have x1 : (((257 + k : Nat) : Int) == 256) = false := by rw [beq_eq_false_iff_ne]; omega
        have x2 : decide (((257 + k : Nat) : Int) < 256) = false := by simp; omega
        clear m1 m2 m3 m4 m5 m6 t1 t2 hk0
        obtain ⟨X, hX⟩ : ∃ X, ((257 + k : Nat) : Int) = X := ⟨_, rfl⟩
        rw [hX] at x1 x2 HC HM
        go_wp2_with (refine wpList_load_row rfl 89 _ rfl B0 rfl 89 CF _ _ hrF Tryd.underlying89 rfl hiF ?_)
        refine Calls.mono HC.out ?_
        rintro e w2 ⟨rfl, s2, g2⟩
        have O2 : Hid (Own w2 B2 (.slice sa p sc) (zs.take (pos zs j))) := Own.gr HO.out g2 hSB
        have hm2 := HM.out w2 (HG.out.trans g2) s2
        have HM2 : Hid _ := hm2
        have G2 : Hid (Gr S W2 w2) := HG.out.trans g2
        have hsz : B2 ≤ w2.heap.size := by have := g2.size; omega
        have hrD := (HRW.out w2 G2.out).2
        rw [hp] at O2 HLl
        clear s2 g2 HO HS HG hrF hm2 HM HC
        have hLf : f ≤ (zs.take p).length := by rw [HLl.out]; exact b5
        have hLn : (zs.take p).length + n ≤ 6000 := by rw [HLl.out]; omega
        generalize zs.take p = L at *
        go_wp2_with (refine wpList_load_row rfl 89 _ rfl (B0 + 1) rfl 89 CD _ _ hrD Tryd.underlying89 rfl hiD ?_)
        refine Calls.mono HM2.out ?_
        rintro e w3 ⟨rfl, s3, g3⟩
        have O3 : Hid (Own w3 B2 (.slice sa p sc) L) := Own.gr O2.out g3 hSB
        have S3 : Hid (Src w3 S b cap ds ((acc zs j).length + fn (257 + k) + LE k + 5 + DE (dp f))) := s3
        have G3 : Hid (Gr S W2 w3) := G2.out.trans g3
        have hsz3 : B2 ≤ w3.heap.size := by have := g3.size; omega
        clear s3 g3 HM2 O2 hrD
        go_wp2_with fail
        refine Calls.mono (repeat_any w3 B2 (.slice sa p sc) L n f hsz3 O3.out b4 hLf hLn) ?_
        rintro e w4 ⟨v4, rfl, o4, k4⟩
        obtain ⟨s4, g4⟩ := lay_step HB2.out hSB hbB S3.out G3.out O3.out (Below.refl _ _) k4
        have hLL : (rep L f n).length = p + n := by rw [rep_len, HLl.out]
        obtain ⟨sa', sc', ev⟩ := Own.shape o4
        rw [hLL] at ev
        subst ev
        have O4 : Hid (Own w4 B2 (.slice sa' (p + n) sc') (zs.take (pos zs (j + 1)))) := by show Own _ _ _ _; rw [← HT1.out]; exact o4
        have S4 : Hid (Src w4 S b cap ds (acc zs (j + 1)).length) := by show Src _ _ _ _ _ _; rw [HL1.out]; exact s4
        have G4 : Hid (Gr S W2 w4) := g4
        clear s4 g4 o4 k4
        go_wp2
        go_roundw
        case rel => exact ⟨j + 1, hlt, O4.out, S4.out, G4.out⟩
        case measure => simp [slLen]; omega
    · have e : j = J := by omega
      subst e
      have hpz := HJ.out.1
      have hrm := HK.out.room
      have hbits : ∀ i, i < fn 256 → btA ds ((acc zs j).length + i) = (codeOf (fc 256) (fn 256)).getD i 0 := by
        rw [fc_end, show fn 256 = 7 from rfl]; exact HK.out.last
      have HC : Hid _ := HSym.out wr _ 256 (by omega) HG.out HS.out (by rw [show fn 256 = 7 from rfl]; exact hrm) hbits
      obtain ⟨X, hX⟩ : ∃ X, ((256 : Nat) : Int) = X := ⟨_, rfl⟩
      rw [hX] at HC
      have x1 : (X == 256) = true := by rw [← hX]; rfl
      have HTk : Hid (zs.take (pos zs j) = zs) := by show _ = _; rw [hpz, List.take_length]
      clear hbits hX hpz
      go_wp2_with (refine wpList_load_row rfl 89 _ rfl B0 rfl 89 CF _ _ hrF Tryd.underlying89 rfl hiF ?_)
      refine Calls.mono HC.out ?_
      rintro e w2 ⟨rfl, s2, g2⟩
      have o2 := Own.gr HO.out g2 hSB
      rw [HTk.out] at o2
      have O2 : Hid (Own w2 B0 (.slice sa p sc) zs) := Own.base o2 (by have := HB2.out; have := Below.size NW.out; have := HB0.out; omega)
      have S2 : Hid (Src w2 S b cap ds ((acc zs j).length + 7)) := s2
      have G2 : Hid (Gr S w w2) := (Gr.of_nw NW.out).trans (HG.out.trans g2)
      clear s2 g2 o2 HO HS HG hrF
      go_wp2
      go_ret2
      exact ⟨_, rfl, O2.out, S2.out, G2.out⟩
end Go.Proofs.YtaeicgfebeliiaaDoor
namespace Go.Proofs.YtaeicgfebeliiaaDoor
open Go.ChangeShapes Go.WideShapes Go.ChangeAt Go.RowKit
set_option linter.unusedVariables false

set_option maxHeartbeats 2000000 in
theorem putDistance_any (W : World) (S : Nat) (s : List Nat × Nat) (n : Nat) (ht : Tabs W) (hS : 4 ≤ S) (hn : 1 ≤ n) (hn2 : n ≤ 6000) (hl : s.1.length ≤ 800000) (hfi : Fine s) (hs : Sink W S s.1 s.2) :
    Calls Tryd.prog 26 #[.iface 34 (.pointer (some ⟨S, 0, none⟩)), .int .i64 n] W fun e w' => e = .returned (.tuple #[]) ∧ Sink w' S (puts (puts s (codeOf (dp n) 5)) (bitsOf (n - DB (dp n)) (DE (dp n)))).1 (puts (puts s (codeOf (dp n) 5)) (bitsOf (n - DB (dp n)) (DE (dp n)))).2 ∧ Below S W w' := by
  have hdp : dp n < 30 := by have := dn_le DB n 29; unfold dp; omega
  have hfit : DB (dp n) ≤ n := dn_fit DB n 29 (by show 1 ≤ n; exact hn)
  have hbd := DB_bd (dp n) hdp
  have HP : Hid (Calls Tryd.prog 47 #[.int .i64 n] W fun e w' => e = .returned (.int .i64 (dp n : Int)) ∧ w' = W) := distancePlace_any n W ht (by show 1 ≤ n; exact hn) (by omega)
  have HC1 : Hid (∀ k5 : Nat, k5 = 5 → Calls Tryd.prog 24 #[.iface 34 (.pointer (some ⟨S, 0, none⟩)), .int .i64 (dp n : Int), .int .i64 (k5 : Int)] W fun e w' => e = .returned (.tuple #[]) ∧ Sink w' S (puts s (codeOf (dp n) 5)).1 (puts s (codeOf (dp n) 5)).2 ∧ Below S W w') := by
    intro k5 hk5; subst hk5; exact putCode_any W S s (dp n) 5 (by omega) (by omega) (by omega) hfi hs
  have hpl := puts_len s (codeOf (dp n) 5)
  rw [codeOf_len] at hpl
  have hf2 := fine_puts s (codeOf (dp n) 5) hfi (codeOf_bits' _ _)
  have HC2 : Hid (∀ W', Sink W' S (puts s (codeOf (dp n) 5)).1 (puts s (codeOf (dp n) 5)).2 → Calls Tryd.prog 20 #[.iface 34 (.pointer (some ⟨S, 0, none⟩)), .int .i64 ((n : Int) - (DB (dp n) : Int)), .int .i64 (DE (dp n) : Int)] W' fun e w' => e = .returned (.tuple #[]) ∧ Sink w' S (puts (puts s (codeOf (dp n) 5)) (bitsOf (n - DB (dp n)) (DE (dp n)))).1 (puts (puts s (codeOf (dp n) 5)) (bitsOf (n - DB (dp n)) (DE (dp n)))).2 ∧ Below S W' w') := by
    intro W' h
    rw [show ((n : Int) - (DB (dp n) : Int)) = ((n - DB (dp n) : Nat) : Int) by omega]
    exact putNumber_any W' S _ (n - DB (dp n)) (DE (dp n)) (by omega) (by omega) (by omega) hf2 h
  have HT : Hid (Tabs W) := ht
  clear ht hf2 hpl
  generalize puts (puts s (codeOf (dp n) 5)) (bitsOf (n - DB (dp n)) (DE (dp n))) = s2 at *
  generalize puts s (codeOf (dp n) 5) = s1 at *
  go_enter Tryd.func26, Tryd.ntmps26
  go_wp2_with fail
  refine Calls.mono HP.out ?_
  rintro e W ⟨rfl, rfl⟩
  go_wp2_with fail
  refine Calls.mono (HC1.out 5 rfl) ?_
  rintro e w1 ⟨rfl, h1, h2⟩
  have HS1 : Hid (Sink w1 S s1.1 s1.2) := h1
  have HB1 : Hid (Below S W w1) := h2
  have ht1 := HT.out.below h2 hS
  have c2 := ht1.2.2.1 (dp n) hdp
  have c3 := ht1.2.2.2.1 (dp n) hdp
  clear h1 h2 ht1
  have x30 : (dp n : Int) < 30 := by omega
  generalize dp n = k at *
  generalize DB k = B at *
  generalize DE k = E at *
  have hw := IntWalk.i64_in ((n : Int) - (B : Int)) (by omega)
  go_wp2
  go_region_held3 (fun w' => w'.cell? ⟨2, k, none⟩ = some (.int .i64 (B : Int)) ∧ w'.cell? ⟨3, k, none⟩ = some (.int .i64 (E : Int))) (first | exact ⟨c2, c3⟩ | exact ⟨(HB2.out.cell (p := ⟨2, k, none⟩) (by show 2 < S; omega)).trans c2, (HB2.out.cell (p := ⟨3, k, none⟩) (by show 3 < S; omega)).trans c3⟩)
    (first
      | (go_at_call 20; refine Calls.mono (HC2.out _ ?_) ?_; exact HS1.out; rintro e w2 ⟨rfl, hs2, hb2⟩; have HS2 : Hid (Sink w2 S s2.1 s2.2) := hs2; have HB2 : Hid (Below S w1 w2) := (Below.refl S w1).drew.trans hb2; clear hs2 hb2))
  go_wp2
  go_returns
  exact ⟨rfl, HS2.out, HB1.out.trans HB2.out⟩
end Go.Proofs.YtaeicgfebeliiaaDoor
namespace Go.Proofs.YtaeicgfebeliiaaDoor
open Go.ChangeShapes Go.WideShapes Go.ChangeAt Go.RowKit
set_option linter.unusedVariables false

/-- A list of the call's own with these bytes has been answered, and nothing that was there is written. -/
def Gave (W w' : World) (g : Nat) (bs : List Nat) (cap : Nat) : Prop :=
  Below W.heap.size W w' ∧ W.heap.size ≤ g ∧ w'.ownsRow W.heap.size 5 1 (.slice (some ⟨g, 0, none⟩) bs.length cap) bs.length (bc bs)
theorem At.gave {W w' : World} {g cap : Nat} {bs : List Nat} (h : Gave W w' g bs cap) : At w' g (ints bs) := by
  obtain ⟨h1, h2, h3⟩ := h
  refine ⟨(h3.lt g rfl).2, fun i hi => ?_, fun o => h3.frozenAt o⟩
  rw [ints_len] at hi
  rw [Nat.zero_add, h3.cellAt i (by omega), ints_get]
  simp [bc, hi]

end Go.Proofs.YtaeicgfebeliiaaDoor

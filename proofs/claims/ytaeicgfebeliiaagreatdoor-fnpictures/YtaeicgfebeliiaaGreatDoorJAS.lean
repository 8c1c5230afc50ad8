/-
  A block of the fixed codes is read by the program; each theorem names its conditions.
  A stored block is read by the program; each theorem names its conditions.
  The program's fixed lengths of distances; each theorem names its conditions.
  What was packed is unpacked by the program; each theorem names its conditions.
-/
import Derived.Test.YtaeicgfebeliiaaGreatDoorJAQ
import Derived.Test.YtaeicgfebeliiaaGreatDoorJAR
import Derived.Test.YtaeicgfebeliiaaGreatDoorJAH
import Derived.Test.YtaeicgfebeliiaaGreatDoorJAO
import Derived.Test.YtaeicgfebeliiaaGreatDoorJAP
namespace Go.Proofs.YtaeicgfebeliiaaGreatDoor
open Go.ChangeShapes Go.WideShapes Go.ChangeAt Go.RowKit
set_option linter.unusedVariables false

theorem Src.ext {w w' : World} {S b off cap : Nat} {ds : List Nat} {t : Nat} {v v' : Value} (h : Src w S b off cap ds t) (k : Ext v v' w w') (h1 : v.ownBlock ≠ some S) (h2 : v.ownBlock ≠ some b) (h3 : b < w.heap.size) : Src w' S b off cap ds t :=
  ⟨(Ext.cell k h.lt h1 0).trans h.c0, (Ext.cell k h.lt h1 1).trans h.c1, fun o => (World.frozen?_of_block (w := w) (a := ⟨S, o, none⟩) (k.1.block S h.lt (fun e => h1 e.symm))).trans (h.fr o), h.ne, fun i hi => (Ext.cell k h3 h2 _).trans (h.dat i hi)⟩
theorem Gr.ext {S : Nat} {W w w' : World} {v v' : Value} (h : Gr S W w) (k : Ext v v' w w') (hv : ∀ g, v.ownBlock = some g → W.heap.size ≤ g) : Gr S W w' :=
  ⟨k.1.os.trans (World.grownBy.os h), k.1.tape.trans (World.grownBy.tape h), k.1.output.trans (World.grownBy.output h), Nat.le_trans h.size k.1.size, fun i hi hne => (k.1.block i (Nat.lt_of_lt_of_le hi h.size) (fun e => by have := hv i e.symm; omega)).trans (World.grownBy.block h i hi hne)⟩
theorem Own.gr {w w' : World} {B S : Nat} {v : Value} {zs : List Int} (h : Own w B v zs) (k : Gr S w w') (hS : S < B) : Own w' B v zs :=
  World.ownsRow.kept h k (Or.inr fun e => by have := (Own.lt h S e).1; omega)
theorem syF_len : syF.length = 288 := by decide +kernel
theorem syD_len : syD.length = 32 := by decide +kernel
theorem own_ne {w : World} {B x : Nat} {v : Value} {zs : List Int} (h : Own w B v zs) (hx : x < B) : v.ownBlock ≠ some x := fun e => by have := (Own.lt h x e).1; omega
/-- What an append to the list leaves. -/
theorem lay_step {S b off cap t B2 : Nat} {ds : List Nat} {W2 w2 wa w' : World} {v v' : Value} {L : List Int} (hB : W2.heap.size = B2) (hS : S < B2) (hb : b < B2) (s2 : Src w2 S b off cap ds t) (g2 : Gr S W2 w2) (o2 : Own w2 B2 v L) (n : Nw w2 wa) (k : Ext v v' wa w') : Src w' S b off cap ds t ∧ Gr S W2 w' := by
  have hbw : b < w2.heap.size := by have := g2.size; omega
  exact ⟨(s2.nw n hbw).ext k (own_ne o2 hS) (own_ne o2 hb) (Nat.lt_of_lt_of_le hbw (Below.size n)), (g2.trans (Gr.of_nw n)).ext k (fun g e => by rw [hB]; exact (Own.lt o2 g e).1)⟩
/-- How long a list is that is held as a value. -/
def slLen : Value → Nat
  | .slice _ n _ => n
  | _ => 0
theorem heap_gr {S : Nat} {a b : World} (h : Gr S a b) {g : Nat} (hg : g < a.heap.size) (hne : g ≠ S) : b.heap[g]? = a.heap[g]? := World.grownBy.block h g hg (fun e => hne (Option.some.inj e))
set_option maxRecDepth 100000 in
set_option maxHeartbeats 8000000 in
theorem unpackCoded_any (w : World) (S b off cap : Nat) (ds : List Nat) (zs : List Int) (J : Nat) (hJ : Ends zs J) (hzl : zs.length ≤ 6000) (hz8 : ∀ i, i < zs.length → 0 ≤ zs.getD i 0 ∧ zs.getD i 0 ≤ 255) (hk : Bks zs J ds) (hl : ds.length ≤ 100000) (gF cF gD cD : Nat) (CF CD : Array Value) (hCF : bookV cnF gF 288 cF = .agg CF) (hCD : bookV cnD gD 32 cD = .agg CD) (zF : CF.size = 17) (zD : CD.size = 17) (hT : Tabs w) (hS4 : 4 ≤ S) (hs : Src w S b off cap ds 3) (hb : b < w.heap.size) (hgF : SyAt w gF syF) (hgFS : gF ≠ S) (hgD : SyAt w gD syD) (hgDS : gD ≠ S) :
    Calls Tryz.prog 90 #[.iface 86 (.pointer (some ⟨S, 0, none⟩)), .slice none 0 0, .agg CF, .agg CD] w fun e w' => ∃ v, e = .returned (.tuple #[v, .int .i64 0]) ∧ Own w' w.heap.size v zs ∧ Src w' S b off cap ds ((acc zs J).length + 7) ∧ Gr S w w' := by
  have hSw := hs.lt
  obtain ⟨W1, hW1⟩ : ∃ W, w.alloc (.cells CF 110) = W := ⟨_, rfl⟩
  have hz1 : W1.heap.size = w.heap.size + 1 := by rw [← hW1]; simp
  obtain ⟨W2, hW2⟩ : ∃ W, W1.alloc (.cells CD 110) = W := ⟨_, rfl⟩
  have hz2 : W2.heap.size = w.heap.size + 2 := by rw [← hW2]; simp; omega
  have n1 : Nw w W1 := by rw [← hW1]; exact (Below.refl _ _).alloc (Nat.le_refl _) _
  have n2 : Nw W1 W2 := by rw [← hW2]; exact (Below.refl _ _).alloc (Nat.le_refl _) _
  have NW : Hid (Nw w W2) := Nw.trans n1 n2
  have RF : Hid (W2.heap[w.heap.size]? = some (.cells CF 110 (0, 0))) := by
    show _ = _
    rw [Below.block n2 _ (by omega), ← hW1]; exact heap_alloc_new w _
  have RD : Hid (W2.heap[W1.heap.size]? = some (.cells CD 110 (0, 0))) := by
    show _ = _
    rw [← hW2]; exact heap_alloc_new W1 _
  have HS2 : Hid (Src W2 S b off cap ds (acc zs 0).length) := hs.nw NW.out hb
  have HSY : Hid (∀ wr, Gr S W2 wr → SyAt wr gF syF ∧ SyAt wr gD syD ∧ Tabs wr) := fun wr k => by
    have k0 := (Gr.of_nw (B := S) NW.out).trans k
    exact ⟨hgF.gr k0 hgFS, hgD.gr k0 hgDS, hT.gr k0 hS4 hSw⟩
  have HRW : Hid (∀ wr, Gr S W2 wr → wr.heap[w.heap.size]? = some (.cells CF 110 (0, 0)) ∧ wr.heap[W1.heap.size]? = some (.cells CD 110 (0, 0))) := fun wr k =>
    ⟨(heap_gr k (by omega) (by omega)).trans RF.out, (heap_gr k (by omega) (by omega)).trans RD.out⟩
  have HJ : Hid (Ends zs J) := hJ
  have HZ8 : Hid _ := hz8
  have HK : Hid (Bks zs J ds) := hk
  have h8 := hk.h8
  have H8 : Hid _ := h8
  have HCF : Hid _ := hCF
  have HCD : Hid _ := hCD
  have hiF : (Tryz.prog.info? 110).map (·.size) = some CF.size := by rw [zF]; kernel_rfl
  have hiD : (Tryz.prog.info? 110).map (·.size) = some CD.size := by rw [zD]; kernel_rfl
  have HSym : Hid (∀ (W : World) (t x : Nat), x < 288 → Gr S W2 W → Src W S b off cap ds t → t + fn x ≤ 8 * ds.length → (∀ i, i < fn x → btA ds (t + i) = (codeOf (fc x) (fn x)).getD i 0) → Calls Tryz.prog 106 #[.agg CF, .iface 86 (.pointer (some ⟨S, 0, none⟩))] W fun e w' => e = .returned (.tuple #[.int .i64 x, .int .i64 0]) ∧ Src w' S b off cap ds (t + fn x) ∧ Gr S W w') := by
    intro W t x hx hg hs ht hbt
    have h := takeSymbol_any W S b off cap ds t cnF gF cF syF (fc x) (fn x) x hl h8 cnF_le (fndF x hx) (fc_pow x hx) hs (by have := hg.size; omega) (HSY.out W hg).1 hgFS ht hbt
    rw [syF_len, hCF] at h
    exact h
  have HMat : Hid (∀ (W : World) (t k kd n f : Nat), k ≤ 28 → kd ≤ 29 → Gr S W2 W → Src W S b off cap ds t → t + LE k + 5 + DE kd ≤ 8 * ds.length → (∀ i, i < 5 → btA ds (t + LE k + i) = (codeOf kd 5).getD i 0) → LB k + rdN ds t (LE k) = n → DB kd + rdN ds (t + LE k + 5) (DE kd) = f → Calls Tryz.prog 107 #[.iface 86 (.pointer (some ⟨S, 0, none⟩)), .int .i64 ((257 + k : Nat) : Int), .agg CD] W fun e w' => e = .returned (.tuple #[.int .i64 (n : Int), .int .i64 (f : Int), .int .i64 0]) ∧ Src w' S b off cap ds (t + LE k + 5 + DE kd) ∧ Gr S W w') := by
    intro W t k kd n f hk1 hk2 hg hs ht hbt e1 e2
    have h := takeMatch_any W S b off cap ds t cnD gD cD syD kd 5 k kd hl h8 cnD_le (fndD kd (by omega)) (by show kd < 32; omega) hs (by have := hg.size; omega) (HSY.out W hg).2.1 hgDS (HSY.out W hg).2.2 hS4 hk1 hk2 ht hbt
    rw [syD_len, hCD, e1, e2] at h
    exact h
  have HW1 : Hid (_ = W1) := hW1
  have HW2 : Hid (_ = W2) := hW2
  have hSB : S < W2.heap.size := by omega
  have hbB : b < W2.heap.size := by omega
  obtain ⟨B2, hB2⟩ : ∃ B, W2.heap.size = B := ⟨_, rfl⟩
  have HB2 : Hid (W2.heap.size = B2) := hB2
  obtain ⟨B0, hB0⟩ : ∃ B, w.heap.size = B := ⟨_, rfl⟩
  have HB0 : Hid (w.heap.size = B0) := hB0
  rw [hB2] at hSB hbB
  rw [hz1, hB0] at HRW
  rw [hB0]
  clear hs hgF hgD hT hJ hz8 hk h8 hCF hCD hW1 hW2 RF RD n1 n2 zF zD hl hb hSw
  go_enter Tryz.func90, Tryz.ntmps90
  go_wp2
  rw [HW1.out, HW2.out]
  go_loopw [1] (fun v wr => ∃ j : Nat, j ≤ J ∧ Own wr B2 v (zs.take (pos zs j)) ∧ Src wr S b off cap ds (acc zs j).length ∧ Gr S W2 wr) (fun v _ => zs.length - slLen v)
  case atStart => exact ⟨0, Nat.zero_le _, Own.nil _ _, HS2.out, Gr.refl _ _⟩
  case round =>
    obtain ⟨j, hj, ho, hs, hg⟩ := hrel
    have HO : Hid (Own wr B2 _ (zs.take (pos zs j))) := ho
    have HS : Hid (Src wr S b off cap ds (acc zs j).length) := hs
    have HG : Hid (Gr S W2 wr) := hg
    obtain ⟨sa, sc, rfl⟩ := ho.shape
    have hgs := hg.size
    rw [HB2.out] at hgs
    have hrF := (HRW.out wr hg).1
    obtain ⟨p, hp⟩ : ∃ p, pos zs j = p := ⟨_, rfl⟩
    have hpl : p ≤ zs.length := by rw [← hp]; exact (acc_bd zs J HJ.out j hj).1
    have hLl : (zs.take (pos zs j)).length = p := by rw [hp, List.length_take]; omega
    have HLl : Hid ((zs.take (pos zs j)).length = p) := hLl
    rw [hLl]
    rw [hLl] at HO
    clear ho hs hg HS2 hLl
    by_cases hlt : j < J
    · have hpz := HJ.out.2 j hlt
      rw [hp] at hpz
      have h6 : ((p : Int) == 6000) = false := by rw [beq_eq_false_iff_ne]; omega
      by_cases hm : mtA zs (pos zs j) = 0
      · obtain ⟨x, hx⟩ := Int.eq_ofNat_of_zero_le (HZ8.out p hpz).1
        have hx8 := (HZ8.out p hpz).2
        rw [hx] at hx8
        obtain ⟨l1, l2, l3⟩ := HK.out.lit j hlt hm x (by rw [hp]; exact hx)
        have HC : Hid _ := HSym.out wr _ x (by omega) HG.out HS.out l2 l3
        obtain ⟨t1, t2⟩ := lit_take HJ.out j hlt hm
        rw [hp] at t1 t2
        rw [hx] at t1
        have HT1 : Hid _ := t1
        have HT2 : Hid _ := t2
        have HL1 : Hid _ := l1
        have x1 : ((x : Int) == 256) = false := by rw [beq_eq_false_iff_ne]; omega
        have x2 : decide ((x : Int) < 256) = true := by simp; omega
        have x3 : IntKind.u8.wrap (x : Int) = (x : Int) := by rw [IntKind.wrap_u8]; omega
        clear hx hx8 l1 l2 l3 t1 t2 hm
        go_wp2_with (refine wpList_load_row rfl 110 _ rfl B0 rfl 110 CF _ _ hrF Tryz.underlying110 rfl hiF ?_)
        refine Calls.mono HC.out ?_
        rintro e w2 ⟨rfl, s2, g2⟩
        have O2 : Hid (Own w2 B2 (.slice sa p sc) (zs.take (pos zs j))) := Own.gr HO.out g2 hSB
        have S2 : Hid (Src w2 S b off cap ds ((acc zs j).length + fn x)) := s2
        have G2 : Hid (Gr S W2 w2) := HG.out.trans g2
        have hsz : B2 ≤ w2.heap.size := by have := g2.size; omega
        have HN : ∀ o, Hid (Nw w2 (w2.alloc o)) := fun o => (Below.refl _ _).alloc (Nat.le_refl _) o
        have hol : (zs.take (pos zs j)).length ≤ 1000000 := by rw [HLl.out]; omega
        rw [hp] at O2 HLl hol
        clear s2 g2 HO HS HG hrF
        generalize zs.take p = L at *
        go_wp2_with (at_builtin; (refine wp_b _ rfl _ _ rfl B2 _ L (x : Int) rfl (Own.nw O2.out (HN _).out) _ rfl ?c1 hol ?c3 ?_))
        case c1 => simp
        case c3 => exact Nat.le_trans hsz (Below.size (HN _).out)
        intro v' w' h1 h2
        obtain ⟨s3, g3⟩ := lay_step HB2.out hSB hbB S2.out G2.out O2.out (HN _).out h2
        have O3 : Hid (Own w' B2 v' (zs.take (pos zs (j + 1)))) := by show Own _ _ _ _; rw [HT1.out]; exact h1
        have S3 : Hid (Src w' S b off cap ds (acc zs (j + 1)).length) := by show Src _ _ _ _ _ _ _; rw [HL1.out]; exact s3
        have G3 : Hid (Gr S W2 w') := g3
        have hLL : (L ++ [(x : Int)]).length = p + 1 := by rw [List.length_append, HLl.out]; rfl
        obtain ⟨sa', sc', ev⟩ := Own.shape h1
        rw [hLL] at ev
        subst ev
        clear s3 g3 h1 h2
        go_wp2
        go_roundw
        case rel => exact ⟨j + 1, hlt, O3.out, S3.out, G3.out⟩
        case measure => simp [slLen]; omega
      · obtain ⟨n, hn⟩ : ∃ n, mtA zs (pos zs j) = n := ⟨_, rfl⟩
        obtain ⟨f, hf⟩ : ∃ f, mtB zs (pos zs j) = f := ⟨_, rfl⟩
        obtain ⟨m1, m2, m3, m4, m5, m6⟩ := HK.out.mat hzl j hlt (by omega) n f hm hn hf
        rcases mt_bd zs (pos zs j) (by omega) with e0 | ⟨b1, b2, b3, b4, b5⟩
        · exact absurd e0 hm
        obtain ⟨t1, t2⟩ := mat_take HJ.out j hlt hm
        rw [hn, hf] at t1
        rw [hn] at t2 b1 b2 b3
        rw [hf] at b4 b5
        rw [hp] at t1 t2 b3 b5
        have hk28 := (lp_more n b1 b2).2.2
        have hk29 := (dp_more f b4 (by omega)).2.2
        have HC : Hid _ := HSym.out wr _ (257 + lp n) (by omega) HG.out HS.out (by omega) m3
        have HM : Hid (∀ W, Gr S W2 W → Src W S b off cap ds ((acc zs j).length + fn (257 + lp n)) → _) := fun W hg hs => HMat.out W ((acc zs j).length + fn (257 + lp n)) (lp n) (dp f) n f hk28 hk29 hg hs m2 m5 m4 m6
        have HL1 : Hid _ := m1
        have HT1 : Hid _ := t1
        have HT2 : Hid _ := t2
        have HLt : Hid (LE (lp n) + 5 + DE (dp f) = LE (lp n) + 5 + DE (dp f)) := rfl
        generalize hk0 : lp n = k at *
        have x1 : (((257 + k : Nat) : Int) == 256) = false := by rw [beq_eq_false_iff_ne]; omega
        have x2 : decide (((257 + k : Nat) : Int) < 256) = false := by simp; omega
        clear m1 m2 m3 m4 m5 m6 t1 t2 hk0
        obtain ⟨X, hX⟩ : ∃ X, ((257 + k : Nat) : Int) = X := ⟨_, rfl⟩
        rw [hX] at x1 x2 HC HM
        go_wp2_with (refine wpList_load_row rfl 110 _ rfl B0 rfl 110 CF _ _ hrF Tryz.underlying110 rfl hiF ?_)
        refine Calls.mono HC.out ?_
        rintro e w2 ⟨rfl, s2, g2⟩
        have O2 : Hid (Own w2 B2 (.slice sa p sc) (zs.take (pos zs j))) := Own.gr HO.out g2 hSB
        have hm2 := HM.out w2 (HG.out.trans g2) s2
        have HM2 : Hid _ := hm2
        have G2 : Hid (Gr S W2 w2) := HG.out.trans g2
        have hsz : B2 ≤ w2.heap.size := by have := g2.size; omega
        have hrD := (HRW.out w2 G2.out).2
        rw [hp] at O2 HLl
        clear s2 g2 HO HS HG hrF hm2 HM HC
        have hLf : f ≤ (zs.take p).length := by rw [HLl.out]; exact b5
        have hLn : (zs.take p).length + n ≤ 6000 := by rw [HLl.out]; omega
        generalize zs.take p = L at *
        go_wp2_with (refine wpList_load_row rfl 110 _ rfl (B0 + 1) rfl 110 CD _ _ hrD Tryz.underlying110 rfl hiD ?_)
        refine Calls.mono HM2.out ?_
        rintro e w3 ⟨rfl, s3, g3⟩
        have O3 : Hid (Own w3 B2 (.slice sa p sc) L) := Own.gr O2.out g3 hSB
        have S3 : Hid (Src w3 S b off cap ds ((acc zs j).length + fn (257 + k) + LE k + 5 + DE (dp f))) := s3
        have G3 : Hid (Gr S W2 w3) := G2.out.trans g3
        have hsz3 : B2 ≤ w3.heap.size := by have := g3.size; omega
        clear s3 g3 HM2 O2 hrD
        go_wp2_with fail
        refine Calls.mono (repeat_any w3 B2 (.slice sa p sc) L n f hsz3 O3.out b4 hLf hLn) ?_
        rintro e w4 ⟨v4, rfl, o4, k4⟩
        obtain ⟨s4, g4⟩ := lay_step HB2.out hSB hbB S3.out G3.out O3.out (Below.refl _ _) k4
        have hLL : (rep L f n).length = p + n := by rw [rep_len, HLl.out]
        obtain ⟨sa', sc', ev⟩ := Own.shape o4
        rw [hLL] at ev
        subst ev
        have O4 : Hid (Own w4 B2 (.slice sa' (p + n) sc') (zs.take (pos zs (j + 1)))) := by show Own _ _ _ _; rw [← HT1.out]; exact o4
        have S4 : Hid (Src w4 S b off cap ds (acc zs (j + 1)).length) := by show Src _ _ _ _ _ _ _; rw [HL1.out]; exact s4
        have G4 : Hid (Gr S W2 w4) := g4
        clear s4 g4 o4 k4
        go_wp2
        go_roundw
        case rel => exact ⟨j + 1, hlt, O4.out, S4.out, G4.out⟩
        case measure => simp [slLen]; omega
    · have e : j = J := by omega
      subst e
      have hpz := HJ.out.1
      have hrm := HK.out.room
      have hbits : ∀ i, i < fn 256 → btA ds ((acc zs j).length + i) = (codeOf (fc 256) (fn 256)).getD i 0 := by
        rw [fc_end, show fn 256 = 7 from rfl]; exact HK.out.last
      have HC : Hid _ := HSym.out wr _ 256 (by omega) HG.out HS.out (by rw [show fn 256 = 7 from rfl]; exact hrm) hbits
      obtain ⟨X, hX⟩ : ∃ X, ((256 : Nat) : Int) = X := ⟨_, rfl⟩
      rw [hX] at HC
      have x1 : (X == 256) = true := by rw [← hX]; rfl
      have HTk : Hid (zs.take (pos zs j) = zs) := by show _ = _; rw [hpz, List.take_length]
      clear hbits hX hpz
      go_wp2_with (refine wpList_load_row rfl 110 _ rfl B0 rfl 110 CF _ _ hrF Tryz.underlying110 rfl hiF ?_)
      refine Calls.mono HC.out ?_
      rintro e w2 ⟨rfl, s2, g2⟩
      have o2 := Own.gr HO.out g2 hSB
      rw [HTk.out] at o2
      have O2 : Hid (Own w2 B0 (.slice sa p sc) zs) := Own.base o2 (by have := HB2.out; have := Below.size NW.out; have := HB0.out; omega)
      have S2 : Hid (Src w2 S b off cap ds ((acc zs j).length + 7)) := s2
      have G2 : Hid (Gr S w w2) := (Gr.of_nw NW.out).trans (HG.out.trans g2)
      clear s2 g2 o2 HO HS HG hrF
      go_wp2
      go_ret2
      exact ⟨_, rfl, O2.out, S2.out, G2.out⟩
end Go.Proofs.YtaeicgfebeliiaaGreatDoor
namespace Go.Proofs.YtaeicgfebeliiaaGreatDoor
open Go.ChangeShapes Go.WideShapes Go.ChangeAt Go.RowKit
set_option linter.unusedVariables false

theorem nil_whole (a : Addr) (W : World) : (nilAhead 255 86 (.pointer (some a)) "loop.example/g00137/impl.toWholeByte").run Tryz.prog W = .ok (some false) W := by kernel_rfl
set_option maxHeartbeats 2000000 in
theorem toWhole_any (w : World) (S b off cap : Nat) (ds : List Nat) (t : Nat) (hl : ds.length ≤ 100000) (hs : Src w S b off cap ds t) (ht : t ≤ 8 * ds.length) :
    Calls Tryz.prog 133 #[.pointer (some ⟨S, 0, none⟩)] w fun e w' => e = .returned (.tuple #[]) ∧ Src w' S b off cap ds (8 * ((t + 7) / 8)) ∧ Gr S w w' := by
  have HC : Hid _ := whole_any w S b off cap ds t hl hs ht
  have HS : Hid _ := hs
  have hq : (8 : Int) * (((t + 7) / 8 : Nat) : Int) = ((8 * ((t + 7) / 8) : Nat) : Int) := by omega
  have hb : (t + 7) / 8 ≤ 100001 := by omega
  generalize (t + 7) / 8 = q at *
  have HQ : Hid _ := hq
  clear hs hq
  go_enter Tryz.func133, Tryz.ntmps133
  go_wp2_with fail
  refine Calls.mono HC.out ?_
  rintro e w1 ⟨rfl, n, hw⟩
  have s1 : Src w1 S b off cap ds t := by rw [hw]; exact HS.out.drew n
  have G1 : Hid (Gr S w w1) := by show Gr _ _ _; rw [hw]; exact gr_dn _ _ _
  have S1 : Hid _ := s1
  have e1 := s1.c1
  have ef := s1.fr 1
  clear s1 hw
  go_wp2
  go_returns
  have h := S1.out.set (8 * q)
  rw [HQ.out]
  exact ⟨rfl, h, G1.out.trans (gr_own _ _ _ _)⟩
/-- What a stored block's bytes tell, whatever stands behind them. -/
theorem stored_reads (xs ex : List Nat) (hl : xs.length ≤ 6000) (h8 : ∀ d ∈ xs, d < 256) (hx : ∀ d ∈ ex, d < 256) :
    rdN (stored xs ++ ex) 0 1 = 1 ∧ rdN (stored xs ++ ex) 1 2 = 0 ∧ rdN (stored xs ++ ex) 8 16 = xs.length ∧ rdN (stored xs ++ ex) 24 16 = 65535 - xs.length ∧ (∀ k, k < xs.length → rdN (stored xs ++ ex) (40 + 8 * k) 8 = xs.getD k 0) ∧ (∀ d ∈ stored xs ++ ex, d < 256) := by
  have e : stored xs ++ ex = 1 :: xs.length % 256 :: xs.length / 256 :: (65535 - xs.length) % 256 :: (65535 - xs.length) / 256 :: (xs ++ ex) := by simp [stored]
  rw [e]
  refine ⟨by simp [rdN, btA], by simp [rdN, btA], ?_, ?_, fun k hk => ?_, ?_⟩
  · have h := rdN_two (1 :: xs.length % 256 :: xs.length / 256 :: (65535 - xs.length) % 256 :: (65535 - xs.length) / 256 :: (xs ++ ex)) 1 (by show xs.length % 256 < 256; omega) (by show xs.length / 256 < 256; omega)
    have e2 : (1 :: xs.length % 256 :: xs.length / 256 :: (65535 - xs.length) % 256 :: (65535 - xs.length) / 256 :: (xs ++ ex)).getD 1 0 + 256 * (1 :: xs.length % 256 :: xs.length / 256 :: (65535 - xs.length) % 256 :: (65535 - xs.length) / 256 :: (xs ++ ex)).getD (1 + 1) 0 = xs.length := by show xs.length % 256 + 256 * (xs.length / 256) = _; omega
    rw [e2] at h
    exact h
  · have h := rdN_two (1 :: xs.length % 256 :: xs.length / 256 :: (65535 - xs.length) % 256 :: (65535 - xs.length) / 256 :: (xs ++ ex)) 3 (by show (65535 - xs.length) % 256 < 256; omega) (by show (65535 - xs.length) / 256 < 256; omega)
    have e2 : (1 :: xs.length % 256 :: xs.length / 256 :: (65535 - xs.length) % 256 :: (65535 - xs.length) / 256 :: (xs ++ ex)).getD 3 0 + 256 * (1 :: xs.length % 256 :: xs.length / 256 :: (65535 - xs.length) % 256 :: (65535 - xs.length) / 256 :: (xs ++ ex)).getD (3 + 1) 0 = 65535 - xs.length := by show (65535 - xs.length) % 256 + 256 * ((65535 - xs.length) / 256) = _; omega
    rw [e2] at h
    exact h
  · have e2 : (1 :: xs.length % 256 :: xs.length / 256 :: (65535 - xs.length) % 256 :: (65535 - xs.length) / 256 :: (xs ++ ex)).getD (5 + k) 0 = xs.getD k 0 := by
      rw [show 5 + k = k + 1 + 1 + 1 + 1 + 1 by omega]
      show (xs ++ ex).getD k 0 = _
      exact upL hk
    have h := rdN_byte (1 :: xs.length % 256 :: xs.length / 256 :: (65535 - xs.length) % 256 :: (65535 - xs.length) / 256 :: (xs ++ ex)) (5 + k) (by
      rw [e2, show xs.getD k 0 = xs[k] by simp [hk]]; exact h8 _ (List.getElem_mem _))
    rw [e2, show 8 * (5 + k) = 40 + 8 * k by omega] at h
    exact h
  · intro d hd
    simp only [List.mem_cons, List.mem_append] at hd
    rcases hd with rfl | rfl | rfl | rfl | rfl | hd | hd
    · omega
    · omega
    · omega
    · omega
    · omega
    · exact h8 d hd
    · exact hx d hd
theorem ints_take (xs : List Nat) (k : Nat) (h : k < xs.length) : ints (xs.take (k + 1)) = ints (xs.take k) ++ [((xs.getD k 0 : Nat) : Int)] := by
  rw [List.take_succ_eq_append_getElem h, ints_app, show xs.getD k 0 = xs[k] by simp [h]]; rfl
set_option maxHeartbeats 4000000 in
theorem unpackStored_any (w : World) (S b off cap : Nat) (xs ex : List Nat) (hl : xs.length ≤ 6000) (hle : ex.length ≤ 1000) (h8 : ∀ d ∈ xs, d < 256) (hex : ∀ d ∈ ex, d < 256) (hs : Src w S b off cap (stored xs ++ ex) 3) (hb : b < w.heap.size) :
    Calls Tryz.prog 89 #[.iface 86 (.pointer (some ⟨S, 0, none⟩)), .slice none 0 0] w fun e w' => ∃ v, e = .returned (.tuple #[v, .int .i64 0]) ∧ Own w' w.heap.size v (ints xs) ∧ Src w' S b off cap (stored xs ++ ex) (8 * (stored xs).length) ∧ Gr S w w' := by
  obtain ⟨_, _, q1, q2, q3, q4⟩ := stored_reads xs ex hl h8 hex
  have hs0 : (stored xs).length = xs.length + 5 := by simp [stored]
  have hsl : (stored xs ++ ex).length = xs.length + 5 + ex.length := by rw [List.length_append, hs0]
  rw [hs0]
  have hS := hs.lt
  have hx8 : ∀ k, k < xs.length → xs.getD k 0 < 256 := fun k hk => by rw [show xs.getD k 0 = xs[k] by simp [hk]]; exact h8 _ (List.getElem_mem _)
  obtain ⟨B, hB⟩ : ∃ B, w.heap.size = B := ⟨_, rfl⟩
  have HB : Hid (w.heap.size = B) := hB
  rw [hB] at hS hb ⊢
  obtain ⟨ds, hds⟩ : ∃ ds, stored xs ++ ex = ds := ⟨_, rfl⟩
  rw [hds] at hs q1 q2 q3 q4 hsl ⊢
  obtain ⟨n, hn⟩ : ∃ n, xs.length = n := ⟨_, rfl⟩
  rw [hn] at hsl q1 q2 q3 hl hx8 ⊢
  have HS : Hid (Src w S b off cap ds 3) := hs
  have HQ3 : Hid _ := q3
  have H8 : Hid _ := q4
  have HX8 : Hid _ := hx8
  have HN : Hid (xs.length = n) := hn
  have hx := xor_all n (by omega)
  have hnil := nil_whole ⟨S, 0, none⟩
  have hld : ds.length ≤ 100000 := by omega
  have hO0 : Hid (Own w B (.slice none 0 0) (ints (xs.take 0))) := Own.nil _ _
  clear hs h8 q3 q4 hx8 hB hds hn hs0
  go_enter Tryz.func89, Tryz.ntmps89
  go_wp2_with fail
  refine (toWhole_any w S b off cap ds 3 hld HS.out (by omega)).mono ?_
  rintro e w1 ⟨rfl, s1, g1⟩
  have S1 : Hid (Src w1 S b off cap ds 8) := s1
  have G1 : Hid (Gr S w w1) := g1
  clear s1 g1
  go_wp2_with fail
  have h16 := takeNumber_any w1 S b off cap ds 8 16 hld H8.out (by omega) S1.out (by omega)
  rw [q1] at h16
  refine Calls.mono h16 ?_
  clear h16
  rintro e w2 ⟨rfl, s1, g1⟩
  have S2 : Hid (Src w2 S b off cap ds 24) := s1
  have G2 : Hid (Gr S w w2) := G1.out.trans g1
  clear s1 g1
  go_wp2_with fail
  have h16 := takeNumber_any w2 S b off cap ds 24 16 hld H8.out (by omega) S2.out (by omega)
  rw [q2] at h16
  refine Calls.mono h16 ?_
  clear h16
  rintro e w3 ⟨rfl, s1, g1⟩
  have S3 : Hid (Src w3 S b off cap ds 40) := s1
  have G3 : Hid (Gr S w w3) := G2.out.trans g1
  have O3 : Hid (Own w3 B (.slice none 0 0) (ints (xs.take 0))) := Own.gr (hO0.out) G3.out hS
  clear s1 g1 S1 S2 G1 G2 HS hO0
  go_wp2
  go_loopw [1, 36] (fun v i wr => ∃ k : Nat, k ≤ n ∧ i = .int .i64 (k : Int) ∧ Own wr B v (ints (xs.take k)) ∧ Src wr S b off cap ds (40 + 8 * k) ∧ Gr S w wr) (fun _ i _ => n - (intOf i).toNat)
  case atStart => exact ⟨0, Nat.zero_le _, rfl, O3.out, S3.out, G3.out⟩
  case round =>
    obtain ⟨k, hk, rfl, ho, hs, hg⟩ := hrel
    obtain ⟨sa, sc, rfl⟩ := ho.shape
    have HG : Hid (Gr S w wr) := hg
    by_cases hlt : k < n
    · have h16 := takeNumber_any wr S b off cap ds (40 + 8 * k) 8 hld H8.out (by omega) hs (by omega)
      rw [HQ3.out k hlt] at h16
      have hd := HX8.out k hlt
      have HT : Hid (ints (xs.take (k + 1)) = ints (xs.take k) ++ [((xs.getD k 0 : Nat) : Int)]) := ints_take xs k (by rw [HN.out]; exact hlt)
      generalize xs.getD k 0 = d at *
      have HC : Hid _ := h16
      have x3 : IntKind.u8.wrap (d : Int) = (d : Int) := by rw [IntKind.wrap_u8]; omega
      have hLl : (ints (xs.take k)).length = k := by rw [ints_len, List.length_take, HN.out]; omega
      have HLl : Hid ((ints (xs.take k)).length = k) := hLl
      have HO : Hid (Own wr B (.slice sa (ints (xs.take k)).length sc) (ints (xs.take k))) := ho
      rw [hLl] at HO ⊢
      clear h16 ho hs hg hLl
      go_wp2_with fail
      refine Calls.mono HC.out ?_
      rintro e w5 ⟨rfl, s5, g5⟩
      have O5 : Hid (Own w5 B (.slice sa k sc) (ints (xs.take k))) := Own.gr HO.out g5 hS
      have S5 : Hid (Src w5 S b off cap ds (40 + 8 * (k + 1))) := s5
      have G5 : Hid (Gr S w w5) := HG.out.trans g5
      have hsz : B ≤ w5.heap.size := by have := G5.out.size; rw [HB.out] at this; exact this
      have HNw : ∀ o, Hid (Nw w5 (w5.alloc o)) := fun o => (Below.refl _ _).alloc (Nat.le_refl _) o
      have hol : (ints (xs.take k)).length ≤ 1000000 := by rw [HLl.out]; omega
      clear s5 g5 HC HO HG
      generalize ints (xs.take k) = L at *
      go_wp2_with (at_builtin; (refine wp_b _ rfl _ _ rfl B _ L (d : Int) rfl (Own.nw O5.out (HNw _).out) _ rfl ?c1 hol ?c3 ?_))
      case c1 => simp
      case c3 => exact Nat.le_trans hsz (Below.size (HNw _).out)
      intro v' w' h1 h2
      obtain ⟨s6, g6⟩ := lay_step HB.out hS hb S5.out G5.out O5.out (HNw _).out h2
      have O6 : Hid (Own w' B v' (ints (xs.take (k + 1)))) := by show Own _ _ _ _; rw [HT.out]; exact h1
      have S6 : Hid (Src w' S b off cap ds (40 + 8 * (k + 1))) := s6
      have G6 : Hid (Gr S w w') := g6
      have hLL : (L ++ [(d : Int)]).length = k + 1 := by rw [List.length_append, HLl.out]; rfl
      obtain ⟨sa', sc', ev⟩ := Own.shape h1
      rw [hLL] at ev
      subst ev
      clear s6 g6 h1 h2
      go_wp2
      go_roundw
      case rel => exact ⟨k + 1, hlt, by go_num, O6.out, S6.out, G6.out⟩
      case measure => simp [intOf]; omega
    · have e : k = n := by omega
      subst e
      have HTk : Hid (xs.take k = xs) := by show _ = _; rw [← HN.out, List.take_length]
      have s2 := hs
      rw [show 40 + 8 * k = 8 * (k + 5) by omega] at s2
      have O1 : Hid (Own wr B (.slice sa (ints (xs.take k)).length sc) (ints (xs.take k))) := ho
      rw [HTk.out] at O1
      have hLl : (ints xs).length = k := by rw [ints_len, HN.out]
      have O2 : Hid (Own wr B (.slice sa k sc) (ints xs)) := by
        have h := O1
        rw [hLl] at h
        exact h
      have S2 : Hid _ := s2
      rw [HTk.out, hLl]
      clear s2 ho hs hg O1 hLl
      go_wp2
      go_ret2
      exact ⟨_, rfl, O2.out, S2.out, HG.out⟩
end Go.Proofs.YtaeicgfebeliiaaGreatDoor
namespace Go.Proofs.YtaeicgfebeliiaaGreatDoor
open Go.ChangeShapes Go.WideShapes Go.ChangeAt Go.RowKit
set_option linter.unusedVariables false

def fvp (i j : Nat) : Int := if j < i then 5 else 0
theorem fvp_set (i : Nat) (h : i < 32) : (tab 32 (fvp i)).setIfInBounds i (.int .i64 5) = tab 32 (fvp (i + 1)) := by
  apply tab_set _ _ _ i _ h
  · intro j hj hne
    unfold fvp
    by_cases h2 : j < i
    · rw [if_pos h2, if_pos (by omega)]
    · rw [if_neg h2, if_neg (by omega)]
  · unfold fvp; rw [if_pos (by omega)]
theorem fvp_all : tab 32 (fvp 32) = cellsOf .i64 fiveL := by
  rw [cellsOf_tab]
  apply tab_congr
  intro j hj
  have h32 : j < 32 := hj
  unfold fvp fiveL
  rw [if_pos h32]
  rw [List.getD_eq_getElem?_getD, List.getElem?_replicate, if_pos h32]; rfl
theorem fvp_zero : tab 32 (fvp 0) = tab 32 (fun _ => 0) := by
  apply tab_congr; intro j hj; unfold fvp; rw [if_neg (by omega)]
set_option maxHeartbeats 2000000 in
theorem fixedDistances_any (w : World) : Calls Tryz.prog 92 #[] w fun e w' => e = .returned (.slice (some ⟨w.heap.size, 0, none⟩) 32 32) ∧ w' = w.alloc (.cells (cellsOf .i64 fiveL) 3) := by
  have hmk := run_make_row' (P := Tryz.prog) 54 3 (.int .i64 0) 8 Tryz.underlying54 Tryz.info3 rfl .i64 .i64 32 (by omega) (by omega)
  rw [tab_zero, ← fvp_zero] at hmk
  have hmk2 : ∀ (W : World), (Instr.makeSlice 54 (Value.int IntKind.i64 32) (Value.int IntKind.i64 32)).run Tryz.prog W = .ok (.slice (some ⟨W.heap.size, 0, none⟩) 32 32) (W.alloc (.cells (tab 32 (fvp 0)) 3)) := hmk
  clear hmk
  have HZ : Hid _ := fvp_all
  go_enter Tryz.func92, Tryz.ntmps92
  go_wp2
  go_loopw [6] (fun i wr => ∃ k : Nat, k ≤ 32 ∧ i = .int .i64 k ∧ wr = w.alloc (.cells (tab 32 (fvp k)) 3)) (fun i _ => 32 - (intOf i).toNat)
  case atStart => exact ⟨0, Nat.zero_le _, rfl, rfl⟩
  case round =>
    obtain ⟨k, hk, rfl, rfl⟩ := hrel
    clear hmk2
    by_cases hlt : k < 32
    · have hg := tab_get 32 (fvp k) k hlt
      have x1 : (k : Int) < 32 := by omega
      have d0 : decide ((k : Int) < 32) = true := by simp; omega
      have HV : Hid _ := fvp_set k hlt
      generalize fvp k k = y at *
      generalize tab 32 (fvp k) = T at *
      go_wp2
      go_roundw
      case rel => exact ⟨k + 1, by omega, by go_num, by rw [← HV.out]⟩
      case measure => simp [intOf]; omega
    · have e : k = 32 := by omega
      subst e
      rw [HZ.out]
      go_wp2
      go_ret
      exact ⟨rfl, rfl⟩
end Go.Proofs.YtaeicgfebeliiaaGreatDoor
namespace Go.Proofs.YtaeicgfebeliiaaGreatDoor
open Go.ChangeShapes Go.WideShapes Go.ChangeAt Go.RowKit
set_option linter.unusedVariables false

theorem sy_of {w : World} {B : Nat} {v : Value} {l : List Nat} (h : Ins w B v (ints l)) (h0 : 0 < l.length) : ∃ g c, v = .slice (some ⟨g, 0, none⟩) l.length c ∧ B ≤ g ∧ SyAt w g l := by
  rcases h.lay with ⟨_, e⟩ | ⟨g, c, e, hB, h1, h2, h3⟩
  · have := congrArg List.length e
    rw [ints_len] at this
    simp at this
    rw [this] at h0; simp at h0
  · rw [ints_len] at e
    refine ⟨g, c, e, hB, h1, fun i hi => ?_⟩
    have := h2 i (by rw [ints_len]; exact hi)
    unfold intAt at this
    rwa [ints_get] at this
theorem book_any (w : World) (zs : List Int) (m : Nat) (hm : zs.length = m) (cf : Nat → Nat) (sy : List Nat) (n : Nat) (hf : fit zs = true) (hb : booked zs 15 = sy) (hc : (List.range 16).all (fun l => decide (cn zs m l = (cf l : Int))) = true) (hn : sy.length = n) (h0 : 0 < n) :
    Calls Tryz.prog 91 #[.slice (some ⟨w.heap.size, 0, none⟩) m m] (w.alloc (.cells (cellsOf .i64 zs) 3)) fun e w' => ∃ g c C, e = .returned (.agg C) ∧ bookV cf g n c = .agg C ∧ C.size = 17 ∧ SyAt w' g sy ∧ w.heap.size ≤ g ∧ Nw w w' := by
  obtain ⟨T, hT⟩ : ∃ T : Nat → Int, ∀ k, T k = cn zs zs.length k := ⟨_, fun _ => rfl⟩
  have hq : ∀ l, l < 16 → T l = (cf l : Int) := fun l hl => by
    rw [hT l, hm]
    exact of_decide_eq_true (List.all_eq_true.1 hc l (List.mem_range.2 hl))
  have h := bookOf_any (w.alloc (.cells (cellsOf .i64 zs) 3)) w.heap.size m zs hf (by simp) (row_cells3 w zs 3) T hT
  rw [hm, hb] at h
  refine Calls.mono h ?_
  rintro e w' ⟨v, rfl, hi, nw⟩
  obtain ⟨g, c, rfl, hg, hs⟩ := sy_of hi (by omega)
  rw [hn]
  refine ⟨g, c, _, rfl, ?_, rfl, hs, by simp at hg; omega, Nw.trans ((Below.refl _ _).alloc (Nat.le_refl _) _) nw⟩
  unfold bookV
  rw [hq 0 (by omega), hq 1 (by omega), hq 2 (by omega), hq 3 (by omega), hq 4 (by omega), hq 5 (by omega), hq 6 (by omega), hq 7 (by omega), hq 8 (by omega), hq 9 (by omega), hq 10 (by omega), hq 11 (by omega), hq 12 (by omega), hq 13 (by omega), hq 14 (by omega), hq 15 (by omega)]
theorem fiveL_len : fiveL.length = 32 := by decide
theorem fiveL_fit : fit fiveL = true := by decide +kernel
/-- What a block that is read leaves. -/
def Blk (w : World) (S b off cap : Nat) (ds : List Nat) (zs : List Int) (t : Nat) (e : Ending) (w' : World) : Prop :=
  ∃ v, e = .returned (.tuple #[v, .int .i64 1, .int .i64 0]) ∧ Own w' w.heap.size v zs ∧ Src w' S b off cap ds t ∧ Gr S w w'
set_option maxHeartbeats 4000000 in
theorem blockStored_any (w : World) (S b off cap : Nat) (xs ex : List Nat) (hl : xs.length ≤ 6000) (hle : ex.length ≤ 1000) (h8 : ∀ d ∈ xs, d < 256) (hex : ∀ d ∈ ex, d < 256) (hs : Src w S b off cap (stored xs ++ ex) 0) (hb : b < w.heap.size) :
    Calls Tryz.prog 73 #[.iface 86 (.pointer (some ⟨S, 0, none⟩)), .slice none 0 0] w (Blk w S b off cap (stored xs ++ ex) (ints xs) (8 * (stored xs).length)) := by
  obtain ⟨q0, q1, _, _, _, q4⟩ := stored_reads xs ex hl h8 hex
  have hs0 : (stored xs).length = xs.length + 5 := by simp [stored]
  have hsl : (stored xs ++ ex).length = xs.length + 5 + ex.length := by rw [List.length_append, hs0]
  have n0 := takeNumber_any w S b off cap (stored xs ++ ex) 0 1 (by omega) q4 (by omega) hs (by omega)
  rw [q0] at n0
  have n1 := fun w1 s1 => takeNumber_any w1 S b off cap (stored xs ++ ex) 1 2 (by omega) q4 (by omega) s1 (by omega)
  rw [q1] at n1
  have N0 : Hid _ := n0
  have N1 : Hid _ := n1
  have hSw := hs.lt
  have US : Hid (∀ w1, Gr S w w1 → Src w1 S b off cap (stored xs ++ ex) 3 → _) := fun w1 g s => unpackStored_any w1 S b off cap xs ex hl hle h8 hex s (Nat.lt_of_lt_of_le hb g.size)
  generalize (stored xs).length = tt at *
  generalize stored xs ++ ex = ds at *
  clear n0 n1 q0 q1 q4 h8 hs
  go_enter Tryz.func73, Tryz.ntmps73
  go_wp2_with fail
  refine Calls.mono N0.out ?_
  rintro e w1 ⟨rfl, s1, g1⟩
  have S1 : Hid (Src w1 S b off cap ds 1) := s1
  have G1 : Hid (Gr S w w1) := g1
  clear s1 g1
  go_wp2_with fail
  refine Calls.mono (N1.out w1 S1.out) ?_
  rintro e w2 ⟨rfl, s1, g1⟩
  have S2 : Hid (Src w2 S b off cap ds 3) := s1
  have G2 : Hid (Gr S w w2) := G1.out.trans g1
  clear s1 g1
  go_wp2_with fail
  refine Calls.mono (US.out w2 G2.out S2.out) ?_
  rintro e w3 ⟨v, rfl, o3, s3, g3⟩
  have O3 : Hid (Own w3 w.heap.size v (ints xs)) := Own.base o3 G2.out.size
  have S3 : Hid (Src w3 S b off cap ds (8 * tt)) := s3
  have G3 : Hid (Gr S w w3) := G2.out.trans g3
  clear s3 g3 o3
  go_wp2
  go_returns
  exact ⟨_, rfl, O3.out, S3.out, G3.out⟩
set_option maxHeartbeats 4000000 in
theorem blockFixed_any (w : World) (S b off cap : Nat) (ds : List Nat) (zs : List Int) (J : Nat) (hJ : Ends zs J) (hzl : zs.length ≤ 6000) (hz8 : ∀ i, i < zs.length → 0 ≤ zs.getD i 0 ∧ zs.getD i 0 ≤ 255) (hk : Bks zs J ds) (hl : ds.length ≤ 100000) (hT : Tabs w) (hS4 : 4 ≤ S) (hs : Src w S b off cap ds 0) (hb : b < w.heap.size) :
    Calls Tryz.prog 73 #[.iface 86 (.pointer (some ⟨S, 0, none⟩)), .slice none 0 0] w (Blk w S b off cap ds zs ((acc zs J).length + 7)) := by
  have hr := hk.room
  have ha := acc_ge zs J
  obtain ⟨q0, q1⟩ := hk.head
  have n0 := takeNumber_any w S b off cap ds 0 1 hl hk.h8 (by omega) hs (by omega)
  rw [q0] at n0
  have n1 := fun w1 s1 => takeNumber_any w1 S b off cap ds 1 2 hl hk.h8 (by omega) s1 (by omega)
  rw [q1] at n1
  have N0 : Hid _ := n0
  have N1 : Hid _ := n1
  have hSw := hs.lt
  have UC : Hid (∀ (w1 : World) (gF cF gD cD : Nat) (CF CD : Array Value), bookV cnF gF 288 cF = .agg CF → bookV cnD gD 32 cD = .agg CD → CF.size = 17 → CD.size = 17 → Gr S w w1 → Src w1 S b off cap ds 3 → SyAt w1 gF syF → gF ≠ S → SyAt w1 gD syD → gD ≠ S → _) := fun w1 gF cF gD cD CF CD a1 a2 a3 a4 g s a5 a6 a7 a8 => unpackCoded_any w1 S b off cap ds zs J hJ hzl hz8 hk hl gF cF gD cD CF CD a1 a2 a3 a4 (hT.gr g hS4 hSw) hS4 s (Nat.lt_of_lt_of_le hb g.size) a5 a6 a7 a8
  have BF : Hid _ := fun w1 => book_any w1 fixedL 288 fixedL_len cnF syF 288 fixed_fit booked_fixed cn_fixed syF_len (by omega)
  have BD : Hid _ := fun w1 => book_any w1 fiveL 32 fiveL_len cnD syD 32 fiveL_fit booked_five cn_five syD_len (by omega)
  clear n0 n1 q0 q1 hk hJ hz8 hT hs
  go_enter Tryz.func73, Tryz.ntmps73
  go_wp2_with fail
  refine Calls.mono N0.out ?_
  rintro e w1 ⟨rfl, s1, g1⟩
  have S1 : Hid (Src w1 S b off cap ds 1) := s1
  have G1 : Hid (Gr S w w1) := g1
  clear s1 g1
  go_wp2_with fail
  refine Calls.mono (N1.out w1 S1.out) ?_
  rintro e w2 ⟨rfl, s1, g1⟩
  have S2 : Hid (Src w2 S b off cap ds 3) := s1
  have G2 : Hid (Gr S w w2) := G1.out.trans g1
  have hb2 : b < w2.heap.size := Nat.lt_of_lt_of_le hb G2.out.size
  clear s1 g1
  go_wp2_with fail
  refine Calls.mono (fixedLengths_any w2) ?_
  rintro e w3 ⟨rfl, rfl⟩
  go_wp2_with fail
  refine Calls.mono (BF.out w2) ?_
  rintro e w4 ⟨gF, cF, CF, rfl, eF, zF, yF, lF, nF⟩
  have hSF : S < w2.heap.size := S2.out.lt
  have S4 : Hid (Src w4 S b off cap ds 3) := S2.out.nw nF hb2
  have G4 : Hid (Gr S w w4) := G2.out.trans (Gr.of_nw nF)
  have YF : Hid (SyAt w4 gF syF) := yF
  have EF : Hid _ := eF
  have ZF : Hid _ := zF
  have hgF : gF ≠ S := by omega
  have hb4 : b < w4.heap.size := Nat.lt_of_lt_of_le hb2 (Below.size nF)
  have hS4' : S < w4.heap.size := S4.out.lt
  clear yF nF eF zF
  go_wp2_with fail
  refine Calls.mono (fixedDistances_any w4) ?_
  rintro e w5 ⟨rfl, rfl⟩
  go_wp2_with fail
  refine Calls.mono (BD.out w4) ?_
  rintro e w6 ⟨gD, cD, CD, rfl, eD, zD, yD, lD, nD⟩
  have S6 : Hid (Src w6 S b off cap ds 3) := S4.out.nw nD hb4
  have G6 : Hid (Gr S w w6) := G4.out.trans (Gr.of_nw nD)
  have YF6 : Hid (SyAt w6 gF syF) := YF.out.gr (Gr.of_nw (B := S) nD) hgF
  have YD : Hid (SyAt w6 gD syD) := yD
  have ED : Hid _ := eD
  have ZD : Hid _ := zD
  have hgD : gD ≠ S := by omega
  clear yD nD eD zD
  go_wp2_with fail
  refine Calls.mono (UC.out w6 gF cF gD cD CF CD EF.out ED.out ZF.out ZD.out G6.out S6.out YF6.out hgF YD.out hgD) ?_
  rintro e w7 ⟨v, rfl, o3, s3, g3⟩
  have O3 : Hid (Own w7 w.heap.size v zs) := Own.base o3 G6.out.size
  have S3 : Hid (Src w7 S b off cap ds ((acc zs J).length + 7)) := s3
  have G3 : Hid (Gr S w w7) := G6.out.trans g3
  clear s3 g3 o3
  go_wp2
  go_returns
  exact ⟨_, rfl, O3.out, S3.out, G3.out⟩
set_option maxHeartbeats 4000000 in
theorem unpack_of (w : World) (b off cap : Nat) (ds : List Nat) (zs : List Int) (t took : Nat) (hl : ds.length ≤ 12000) (ht : t ≤ 8 * ds.length) (ht2 : (t + 7) / 8 = took) (hb : b < w.heap.size) (hc : ∀ i, i < ds.length → w.cell? ⟨b, off + i, none⟩ = some (.int .u8 ((ds.getD i 0 : Nat) : Int)))
    (hB : ∀ w1, Nw w w1 → Src w1 w.heap.size b off cap ds 0 → Calls Tryz.prog 73 #[.iface 86 (.pointer (some ⟨w.heap.size, 0, none⟩)), .slice none 0 0] w1 (Blk w1 w.heap.size b off cap ds zs t)) :
    Calls Tryz.prog 51 #[.slice (some ⟨b, off, none⟩) ds.length cap] w fun e w' => ∃ v, e = .returned (.tuple #[v, .int .i64 (took : Int), .int .i64 0]) ∧ Own w' w.heap.size v zs ∧ Nw w w' := by
  obtain ⟨W1, hW1⟩ : ∃ W, w.alloc (.cells #[.slice (some ⟨b, off, none⟩) ds.length cap, .int .i64 0] 88) = W := ⟨_, rfl⟩
  have NW : Hid (Nw w W1) := by show Nw _ _; rw [← hW1]; exact (Below.refl _ _).alloc (Nat.le_refl _) _
  have hs1 : Src W1 w.heap.size b off cap ds 0 := by
    refine ⟨by rw [← hW1]; simp, by rw [← hW1]; simp, fun o => by rw [← hW1]; exact World.frozen?_alloc_at _ _ _ _ rfl, by omega, fun i hi => ?_⟩
    rw [(bcell NW.out).1 b _ hb]; exact hc i hi
  have HBk : Hid _ := hB W1 NW.out hs1
  have hT12 : decide ((12000 : Int) < (ds.length : Int)) = false := by simp; omega
  have HW1 : Hid (_ = W1) := hW1
  have HT2 : Hid _ := ht2
  have hsz1 : W1.heap.size = w.heap.size + 1 := by rw [← hW1]; simp
  have HSZ : Hid _ := hsz1
  obtain ⟨S, hS⟩ : ∃ S, w.heap.size = S := ⟨_, rfl⟩
  have HS : Hid (w.heap.size = S) := hS
  rw [hS] at HBk ⊢
  clear hW1 hs1 hB hc ht2 hsz1
  go_enter Tryz.func51, Tryz.ntmps51
  go_wp2
  rw [HW1.out]
  go_loopw [6] (fun v wr => v = .slice none 0 0 ∧ wr = W1) (fun _ _ => 0)
  case atStart => exact ⟨rfl, rfl⟩
  case round =>
    obtain ⟨rfl, rfl⟩ := hrel
    go_wp2_with fail
    refine Calls.mono HBk.out ?_
    rintro e w2 ⟨v, rfl, o2, s2, g2⟩
    have hw0 := whole_any w2 S b off cap ds t (by omega) s2 ht
    rw [HT2.out] at hw0
    have HW : Hid _ := hw0
    have hnw : Nw w w2 := Below.trans NW.out (Gr.below g2 (by have := Below.size NW.out; omega) |>.mono (by rw [HS.out]; exact Nat.le_refl _))
    have N2 : Hid (Nw w w2) := hnw
    have O2 : Hid (Own w2 S v zs) := Own.base o2 (by rw [HSZ.out, HS.out]; omega)
    obtain ⟨sa, sc, rfl⟩ := Own.shape o2
    clear o2 s2 g2 hnw hw0
    go_wp2_with fail
    refine Calls.mono HW.out ?_
    rintro e w3 ⟨rfl, n, rfl⟩
    go_wp2
    go_returns
    exact ⟨_, rfl, Own.nw O2.out ⟨rfl, rfl, rfl, Nat.le_refl _, fun _ _ => rfl⟩, Nw.trans N2.out ⟨rfl, rfl, rfl, Nat.le_refl _, fun _ _ => rfl⟩⟩
end Go.Proofs.YtaeicgfebeliiaaGreatDoor

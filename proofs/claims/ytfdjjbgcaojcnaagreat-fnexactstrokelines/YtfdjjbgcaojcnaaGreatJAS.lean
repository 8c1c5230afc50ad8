/-
  The reference's dashing goes along a side: segment; each the
-/
import Derived.Test.YtfdjjbgcaojcnaaGreatJAR
import Derived.Deep.DeepCutAuto
import Derived.Deep.CutBlock
import Derived.Test.YtfdjjbgcaojcnaaGreatJAN
import Derived.Test.YtfdjjbgcaojcnaaGreatJAO
import Derived.Test.YtfdjjbgcaojcnaaGreatJAA
namespace Go.Proofs.YtfdjjbgcaojcnaaGreat
open Go.ChangeShapes Go.WideShapes Go.ChangeAt Go.RowKit
set_option linter.unusedVariables false
theorem loop_fuel {ms : List Int} {c : Nat} (hn : ∀ i, i < ms.length → 0 ≤ intAt ms i ∧ intAt ms i ≤ 67108864) (a b : Pnt) (n : Int) : ∀ (m f f' : Nat) (s : Wk) (g : Int), 2402 - s.begun ≤ m → WB ms c s → 2402 - s.begun ≤ f → 2402 - s.begun ≤ f' → loopW ms a b n f s g = loopW ms a b n f' s g := by
 intro m
 induction m with
 | zero =>
  intro f f' s g hm hw hf hf'
  have := hw.hb
  omega
 | succ m ih =>
  intro f f' s g hm hw hf hf'
  have hb := hw.hb
  obtain ⟨f1, rfl⟩ : ∃ f1, f = f1 + 1 := ⟨f - 1, by omega⟩
  obtain ⟨f2, rfl⟩ : ∃ f2, f' = f2 + 1 := ⟨f' - 1, by omega⟩
  rw [loopW, loopW]
  by_cases hc : s.left < n - g ∧ s.many ≤ 600 ∧ s.begun ≤ 2400
  ·rw [if_pos hc, if_pos hc]
   have hz : WB ms c (zeroW s) := ⟨hw.hk, hw.ho, hw.hb, hw.hm, by show _ ≤ (0 : Int); omega, by show (0 : Int) ≤ _; omega⟩
   have hal := add_left (zeroW s) (placeV a b (g + s.left) n)
   obtain ⟨w1, w2⟩ := WB.next1 hn (placeV a b (g + s.left) n) (hz.add (placeV a b (g + s.left) n)) hal.1 (by rw [hal.2]; exact hc.2.2)
   rw [hal.2] at w2
   have w2' : s.begun < (inW ms a b n s g).begun := w2
   exact ih f1 f2 (inW ms a b n s g) (g + s.left) (by omega) w1 (by omega) (by omega)
  ·rw [if_neg hc, if_neg hc]
theorem in_WB {ms : List Int} {c : Nat} (hn : ∀ i, i < ms.length → 0 ≤ intAt ms i ∧ intAt ms i ≤ 67108864) (a b : Pnt) (n : Int) {s : Wk} (g : Int) (hw : WB ms c s) (hb : s.begun ≤ 2400) : WB ms c (inW ms a b n s g) ∧ s.begun < (inW ms a b n s g).begun := by
 have hz : WB ms c (zeroW s) := ⟨hw.hk, hw.ho, hw.hb, hw.hm, by show _ ≤ (0 : Int); omega, by show (0 : Int) ≤ _; omega⟩
 have hal := add_left (zeroW s) (placeV a b (g + s.left) n)
 obtain ⟨w1, w2⟩ := WB.next1 hn (placeV a b (g + s.left) n) (hz.add (placeV a b (g + s.left) n)) hal.1 (by rw [hal.2]; exact hb)
 rw [hal.2] at w2
 exact ⟨w1, w2⟩
theorem next_left {ms : List Int} (hn : ∀ i, i < ms.length → 0 ≤ intAt ms i ∧ intAt ms i ≤ 67108864) (hp : 0 < ms.length) (q : Pnt) : ∀ (f : Nat) (s : Wk), 0 ≤ s.left → 0 ≤ (nextW ms q f s).left
 | 0, s, h => h
 | f + 1, s, h => by
  rw [nextW]
  split
  ·exact next_left hn hp q f _ (hn _ (Nat.mod_lt _ hp)).1
  ·exact h
def okW (s : Wk) : Prop := 0 ≤ s.left ∨ badW s
theorem in_ok {ms : List Int} (hn : ∀ i, i < ms.length → 0 ≤ intAt ms i ∧ intAt ms i ≤ 67108864) (hp : 0 < ms.length) (a b : Pnt) (n : Int) (s : Wk) (g : Int) : okW (inW ms a b n s g) := by
 refine Or.inl (next_left hn hp _ _ _ ?_)
 rw [(add_left _ _).1]; exact Int.le_refl _
theorem tail_ok {ms : List Int} {c : Nat} (hn : ∀ i, i < ms.length → 0 ≤ intAt ms i ∧ intAt ms i ≤ 67108864) (hp : 0 < ms.length) (b : Pnt) (n : Int) {s : Wk} {g : Int} (hw : WB ms c s) (ho : okW s) (hx : ¬ (s.left < n - g ∧ s.many ≤ 600 ∧ s.begun ≤ 2400)) (hg0 : 0 ≤ g) (hg : g ≤ n) (hn2 : n ≤ 268435455) : WB ms (c + 1) (tailW ms b n s g) ∧ okW (tailW ms b n s g) ∧ WB ms c.succ (lessW s (n - g)) := by
 have h0 := hw.h0
 have h1 := hw.h1
 have hl : WB ms (c + 1) (lessW s (n - g)) := ⟨hw.hk, hw.ho, hw.hb, by have := hw.hm; show s.many + s.now.length ≤ 2 * s.begun + (c + 1); omega, by show _ ≤ s.left - (n - g); omega, by show s.left - (n - g) ≤ _; omega⟩
 have hok : okW (lessW s (n - g)) := by
  by_cases hb : badW s
  ·exact Or.inr hb
  ·refine Or.inl ?_
   show 0 ≤ s.left - (n - g)
   unfold badW at hb
   have : ¬ s.left < n - g := fun e => hx ⟨e, by omega, by omega⟩
   omega
 refine ⟨?_, ?_, hl⟩
 ·unfold tailW goW
  split
  ·refine WB.next hn b _ ?_
   have ha : (addW (lessW s (n - g)) b).many + (addW (lessW s (n - g)) b).now.length ≤ s.many + s.now.length + 1 ∧ (addW (lessW s (n - g)) b).k = s.k ∧ (addW (lessW s (n - g)) b).out = s.out := by
    unfold addW
    split
    ·exact ⟨by show s.many + (s.now ++ [b]).length ≤ _; simp; omega, rfl, rfl⟩
    ·exact ⟨by show s.many + s.now.length ≤ _; omega, rfl, rfl⟩
   obtain ⟨l1, l2⟩ := add_left (lessW s (n - g)) b
   exact ⟨by rw [ha.2.1]; exact hw.hk, by rw [ha.2.2, l2]; exact hw.ho, by rw [l2]; exact hw.hb, by rw [l2]; have := hw.hm; have := ha.1; show _ ≤ 2 * s.begun + _; omega, by rw [l1]; exact hl.h0, by rw [l1]; exact hl.h1⟩
  ·exact hl
 ·unfold tailW goW
  split
  ·rcases hok with h | h
   ·exact Or.inl (next_left hn hp _ _ _ (by rw [(add_left _ _).1]; exact h))
   ·exact Or.inr (next_bad ms b _ _ (add_bad b h))
  ·exact hok
set_option maxRecDepth 100000 in
set_option maxHeartbeats 8000000 in
theorem sseg (w0 w : World) (bx : Nat) (K : List (Nat × Int × Int)) (na : Option Addr) (nc : Nat) (ms : List Int) (s : Wk) (ax ay ex ey : Int) (c : Nat) (hb0 : w0.heap.size ≤ bx) (hna : nearB (ax, ay) = true) (hnb : nearB (ex, ey) = true) (hI : Ints w0 na ms) (hms : ∀ i, i < ms.length → 0 ≤ intAt ms i ∧ intAt ms i ≤ 67108864) (hl : ms.length ≤ 16) (hc : c ≤ 9000) (hwb : WB ms c s) (hok : okW s) (h : WhS bx w0 w K na nc ms s) :
  Calls Tryz.prog 67 #[.pointer (some ⟨bx, 0, none⟩), .agg #[.int .i64 ax, .int .i64 ay], .agg #[.int .i64 ex, .int .i64 ey]] w fun e w' => e = .returned (.tuple #[]) ∧ WhS bx w0 w' K na nc ms (segW ms s (ax, ay) (ex, ey)) ∧ WB ms (c + 1) (segW ms s (ax, ay) (ex, ey)) ∧ okW (segW ms s (ax, ay) (ex, ey)) := by
 have HSZ : Hid (∀ w, _) := fun w => ssize w (ax, ay) (ex, ey) hna hnb
 have hn0 : 0 ≤ szV (ax, ay) (ex, ey) := (szV_is _ _).1
 have hn1 : szV (ax, ay) (ex, ey) ≤ 268435455 := szV_le hna hnb
 have hpos : 0 < ms.length := by have := hwb.hk; omega
 obtain ⟨RR, hRR⟩ : ∃ RR, segW ms s (ax, ay) (ex, ey) = RR := ⟨_, rfl⟩
 rw [hRR]
 unfold segW at hRR
 obtain ⟨n, hn⟩ : ∃ n, szV (ax, ay) (ex, ey) = n := ⟨_, rfl⟩
 rw [hn] at HSZ hn0 hn1 hRR
 simp only at HSZ
 obtain ⟨R, hR⟩ : ∃ R, loopW ms (ax, ay) (ex, ey) n (2402 - s.begun) s 0 = R := ⟨_, rfl⟩
 rw [hR] at hRR
 have HR : Hid (loopW ms (ax, ay) (ex, ey) n (2402 - s.begun) s 0 = R) := hR
 have HRR : Hid (tailW ms (ex, ey) n R.1 R.2 = RR) := hRR
 obtain ⟨W2, hW2⟩ : ∃ W2, (w.alloc (.cells #[.int .i64 ax, .int .i64 ay] 34)).alloc (.cells #[.int .i64 ex, .int .i64 ey] 34) = W2 := ⟨_, rfl⟩
 have h2 := WhS.box (WhS.box h ax ay 34) ex ey 34
 rw [hW2, World.size_alloc] at h2
 obtain ⟨ba, hba⟩ : ∃ ba, w.heap.size = ba := ⟨_, rfl⟩
 rw [hba] at h2
 have H2 : Hid (WhS bx w0 W2 ((ba + 1, ex, ey) :: (ba, ax, ay) :: K) na nc ms s) := h2
 have KS : Hid (∀ q, q ∈ K → q ∈ (ba + 1, ex, ey) :: (ba, ax, ay) :: K) := fun q hq => by simp [hq]
 have HNA : Hid (nr ax ∧ nr ay ∧ nr ex ∧ nr ey) := ⟨(nearB_nr hna).1, (nearB_nr hna).2, (nearB_nr hnb).1, (nearB_nr hnb).2⟩
 have HW2 : Hid (_ = W2) := hW2
 have HBA : Hid (w.heap.size = ba) := hba
 have HI : Hid (Ints w0 na ms) := hI
 have HMS : Hid _ := hms
 have HWB : Hid (WB ms c s) := hwb
 have HOK : Hid (okW s) := hok
 obtain ⟨q0, q1⟩ := WhS.at H2.out (b := ba) (x := ax) (y := ay) (by simp)
 obtain ⟨q2, q3⟩ := WhS.at H2.out (b := ba + 1) (x := ex) (y := ey) (by simp)
 clear h h2 hW2 hba hI hms hwb hok hna hnb hR hRR hn
 go_enter Tryz.func67, Tryz.ntmps67
 go_wp2_with fail
 rw [HW2.out, HBA.out]
 refine Calls.mono (HSZ.out _) ?_
 rintro e w3 ⟨rfl, k3⟩
 have H3 : Hid (WhS bx w0 w3 ((ba + 1, ex, ey) :: (ba, ax, ay) :: K) na nc ms s) := WhS.nw H2.out k3.nw
 clear k3 q0 q1 q2 q3 H2
 go_wp2
 go_loopw [7] (fun g wr => ∃ gi : Int, g = .int .i64 gi ∧ 0 ≤ gi ∧ gi ≤ n ∧ ∃ s', WhS bx w0 wr ((ba + 1, ex, ey) :: (ba, ax, ay) :: K) na nc ms s' ∧ WB ms c s' ∧ okW s' ∧ loopW ms (ax, ay) (ex, ey) n (2402 - s'.begun) s' gi = R) (fun _ wr => 30000 - (intOf ((wr.cell? ⟨bx, 6, none⟩).getD undef)).toNat)
 case atStart => exact ⟨0, rfl, by omega, by omega, s, H3.out, HWB.out, HOK.out, HR.out⟩
 case round =>
  obtain ⟨gi, rfl, hg0, hg1, ⟨k, left, now, out, many, begun⟩, hd', hwb', hok', hr'⟩ := hrel
  have HD : Hid (WhS bx w0 wr ((ba + 1, ex, ey) :: (ba, ax, ay) :: K) na nc ms ⟨k, left, now, out, many, begun⟩) := hd'
  have HB' : Hid (WB ms c ⟨k, left, now, out, many, begun⟩) := hwb'
  have HO' : Hid (okW ⟨k, left, now, out, many, begun⟩) := hok'
  have HR' : Hid (loopW ms (ax, ay) (ex, ey) n (2402 - begun) ⟨k, left, now, out, many, begun⟩ gi = R) := hr'
  have hbg : begun ≤ 2401 := hwb'.hb
  have hl0 : -268435456 * (c : Int) ≤ left := hwb'.h0
  have hl1 : left ≤ 67108864 := hwb'.h1
  have hmm : many ≤ 2 * begun + c := by have := hwb'.hm; have : many + now.length ≤ 2 * begun + c := this; omega
  obtain ⟨v, it, u, dh, _, hw0r, hkb⟩ := hd'
  simp only at dh
  have c2 := dh.c2
  have c5 := dh.c5
  have c6 := dh.c6
  have fr := dh.free
  have DH1 : Hid _ := dh
  have HC6 : Hid _ := c6
  have HNR : Hid (Nw w0 wr) := hw0r
  have HKR : Hid _ := hkb
  clear hwb' hok' hr' dh hw0r hkb
  by_cases hcond : left < n - gi ∧ many ≤ 600 ∧ begun ≤ 2400
  ·obtain ⟨hlt, hm6, hb4⟩ := hcond
   have dl : decide (left < n - gi) = true := decide_eq_true hlt
   have dm : decide ((many : Int) ≤ 600) = true := by simp; omega
   have db : decide ((begun : Int) ≤ 2400) = true := by simp; omega
   have hlp : 0 ≤ left := by
    rcases HO'.out with h | h
    ·exact h
    ·unfold badW at h; simp only at h; omega
   obtain ⟨g', hg'⟩ : ∃ g' : Int, gi + left = g' := ⟨_, rfl⟩
   obtain ⟨T, hT⟩ : ∃ T, inW ms (ax, ay) (ex, ey) n ⟨k, left, now, out, many, begun⟩ gi = T := ⟨_, rfl⟩
   have hin := in_WB HMS.out (ax, ay) (ex, ey) n gi HB'.out hb4
   have hino := in_ok HMS.out hpos (ax, ay) (ex, ey) n ⟨k, left, now, out, many, begun⟩ gi
   rw [hT] at hin hino
   have HT : Hid (WB ms c T ∧ begun < T.begun ∧ okW T) := ⟨hin.1, hin.2, hino⟩
   have HRT : Hid (loopW ms (ax, ay) (ex, ey) n (2402 - T.begun) T g' = R) := by
    show _ = _
    have e := HR'.out
    rw [show 2402 - begun = (2401 - begun) + 1 by omega, loopW, if_pos ⟨hlt, hm6, hb4⟩] at e
    simp only at e
    rw [hT, hg'] at e
    rw [← e]
    have := hin.2
    simp only at this
    exact loop_fuel (c := c) HMS.out _ _ n _ _ _ T g' (Nat.le_refl _) hin.1 (Nat.le_refl _) (by omega)
   have HTE : Hid (goW ms (placeV (ax, ay) (ex, ey) g' n) (addW ⟨k, 0, now, out, many, begun⟩ (placeV (ax, ay) (ex, ey) g' n)) = T) := by
    show _ = _
    rw [← hT, ← hg']; rfl
   have hwa : IntKind.i64.wrap (gi + left) = g' := by rw [IntWalk.i64_in _ ⟨by omega, by omega⟩]; exact hg'
   have hgb : 0 ≤ g' ∧ g' ≤ n := by omega
   have hnp : 0 < n := by omega
   obtain ⟨s1, s2⟩ := WH.setL DH1.out 0
   obtain ⟨W5, hW5⟩ : ∃ W5, wr.setCell ⟨bx, 2, none⟩ (.int .i64 0) = W5 := ⟨_, rfl⟩
   rw [hW5] at s1 s2
   have HW5 : Hid (_ = W5) := hW5
   have S5 : Hid (WhS bx w0 W5.drew ((ba + 1, ex, ey) :: (ba, ax, ay) :: K) na nc ms ⟨k, 0, now, out, many, begun⟩) := by
    have hk5 := Kb.set HKR.out 2 (.int .i64 0)
    rw [hW5] at hk5
    have n5 : Nw W5 W5.drew := (Below.refl _ _).drew
    obtain ⟨v', it', u', dh', ho', _, _⟩ := HD.out
    exact WhS.nw (WhS.of (s := ⟨k, 0, now, out, many, begun⟩) s1 (by assumption) (Below.trans HNR.out (Below.mono s2 hb0)) rfl rfl rfl rfl rfl hk5) n5
   obtain ⟨q0, q1⟩ := WhS.at S5.out (b := ba) (x := ax) (y := ay) (by simp)
   obtain ⟨q2, q3⟩ := WhS.at S5.out (b := ba + 1) (x := ex) (y := ey) (by simp)
   have Q4 : Hid _ := And.intro (And.intro q0 q1) (And.intro q2 q3)
   obtain ⟨m1, m2⟩ := mul_in (d := ex - ax) (k := g') (by have := HNA.out; unfold nr at this; omega) (by have := HNA.out; unfold nr at this; omega) hgb.1 (by omega)
   obtain ⟨m3, m4⟩ := mul_in (d := ey - ay) (k := g') (by have := HNA.out; unfold nr at this; omega) (by have := HNA.out; unfold nr at this; omega) hgb.1 (by omega)
   obtain ⟨m5, m6⟩ := quo_in (x := ex - ax) (k := g') (n := n) hgb.1 hgb.2 hnp (by have := HNA.out; unfold nr at this; omega) (by have := HNA.out; unfold nr at this; omega)
   obtain ⟨m7, m8⟩ := quo_in (x := ey - ay) (k := g') (n := n) hgb.1 hgb.2 hnp (by have := HNA.out; unfold nr at this; omega) (by have := HNA.out; unfold nr at this; omega)
   have FA : Hid ((IntKind.i64.wrap (ex - ax) = ex - ax) ∧ (IntKind.i64.wrap ((ex - ax) * g') = (ex - ax) * g') ∧ (IntKind.i64.wrap (ax + (ex - ax) * g' / n) = ax + (ex - ax) * g' / n) ∧ (IntKind.i64.wrap (ey - ay) = ey - ay) ∧ (IntKind.i64.wrap ((ey - ay) * g') = (ey - ay) * g') ∧ (IntKind.i64.wrap (ay + (ey - ay) * g' / n) = ay + (ey - ay) * g' / n) ∧ (-4611686018427387904 ≤ (ex - ax) * g' ∧ (ex - ax) * g' ≤ 4611686018427387904) ∧ (-4611686018427387904 ≤ (ey - ay) * g' ∧ (ey - ay) * g' ≤ 4611686018427387904)) := by
    have hh := HNA.out
    unfold nr at hh
    exact ⟨IntWalk.i64_in _ ⟨by omega, by omega⟩, IntWalk.i64_in _ ⟨by omega, by omega⟩, IntWalk.i64_in _ ⟨by omega, by omega⟩, IntWalk.i64_in _ ⟨by omega, by omega⟩, IntWalk.i64_in _ ⟨by omega, by omega⟩, IntWalk.i64_in _ ⟨by omega, by omega⟩, ⟨by omega, by omega⟩, ⟨by omega, by omega⟩⟩
   clear m1 m2 m3 m4 m5 m6 m7 m8 hW5 s1 s2 hT hg' hin hino hlt hm6 hb4 q0 q1 q2 q3 HR' HD
   go_wp2
   rw [HW5.out]
   refine reg_change (ops' := opsOf 6 Tryz.f67) (by kernel_rfl) ?_
   refine SG6.run ⟨ax, ay, ex, ey, g', n, ba, ba + 1, W5.drew, _⟩ ⟨Q4.out.1.1, Q4.out.1.2, Q4.out.2.1, Q4.out.2.2, FA.out.1, FA.out.2.1, FA.out.2.2.1, FA.out.2.2.2.1, FA.out.2.2.2.2.1, FA.out.2.2.2.2.2.1, hnp, by show n ≤ _; omega, FA.out.2.2.2.2.2.2.1, FA.out.2.2.2.2.2.2.2, rfl, rfl, rfl, rfl, rfl⟩ W5 (Kp.refl _) ?_
   rintro γ w6 ⟨bp, g0, hbp, ⟨z0, z1⟩, zf, k6⟩
   simp only at g0 hbp z0 z1 k6
   have S6 : Hid (WhS bx w0 w6 ((bp, ax + (ex - ax) * g' / n, ay + (ey - ay) * g' / n) :: (ba + 1, ex, ey) :: (ba, ax, ay) :: K) na nc ms ⟨k, 0, now, out, many, begun⟩) := WhS.more S5.out k6.nw hbp z0 z1 zf
   have HPV : Hid (placeV (ax, ay) (ex, ey) g' n = (ax + (ex - ax) * g' / n, ay + (ey - ay) * g' / n)) := rfl
   rw [HPV.out] at HTE
   simp only [g0, Act.put, List.setIfInBounds_toArray, List.set_cons_zero, List.set_cons_succ]
   generalize ax + (ex - ax) * g' / n = px at *
   generalize ay + (ey - ay) * g' / n = py at *
   clear g0 hbp k6 zf S5 Q4 FA HW5 c2 c5 c6 fr DH1 HKR HNR HPV
   have HA : Hid _ := sadd w0 w6 bx _ na nc ms ⟨k, 0, now, out, many, begun⟩ px py hb0 (by have := HB'.out.hm; have : many + now.length ≤ 2 * begun + c := this; show now.length ≤ _; omega) S6.out
   go_wp2_with fail
   refine Calls.mono HA.out ?_
   rintro e w7 ⟨rfl, h7⟩
   have S7 : Hid (WhS bx w0 w7 ((bp, px, py) :: (ba + 1, ex, ey) :: (ba, ax, ay) :: K) na nc ms (addW ⟨k, 0, now, out, many, begun⟩ (px, py))) := h7
   obtain ⟨y0, y1⟩ := WhS.at h7 (b := bp) (x := px) (y := py) (by simp)
   have HX : Hid _ := snext w0 w7 bx _ na nc ms (addW ⟨k, 0, now, out, many, begun⟩ (px, py)) px py (c + 1) hb0 HI.out HMS.out hl (by omega) (WB.add (s := ⟨k, 0, now, out, many, begun⟩) ⟨HB'.out.hk, HB'.out.ho, HB'.out.hb, HB'.out.hm, by show _ ≤ (0 : Int); omega, by show (0 : Int) ≤ _; omega⟩ (px, py)) S7.out
   rw [HTE.out] at HX
   clear h7 z0 z1 HA S6
   go_wp2_with fail
   refine Calls.mono HX.out ?_
   rintro e w8 ⟨rfl, h8⟩
   have S8 : Hid (WhS bx w0 w8 ((ba + 1, ex, ey) :: (ba, ax, ay) :: K) na nc ms T) := WhS.sub h8 (fun q hq => List.mem_cons_of_mem _ hq)
   have hmea : ∃ v8 it8 u8, WH bx w8 (.slice na ms.length nc) T.k T.left T.many T.begun v8 it8 u8 T.now := by
    obtain ⟨v8, it8, u8, d8, _⟩ := h8
    exact ⟨v8, it8, u8, d8⟩
   have HME : Hid (w8.cell? ⟨bx, 6, none⟩ = some (.int .i64 (T.begun : Int))) := by
    obtain ⟨v8, it8, u8, d8⟩ := hmea
    exact d8.c6
   clear h8 hmea y0 y1 S7 HX
   go_wp2
   go_roundw
   case rel => exact ⟨g', rfl, hgb.1, hgb.2, T, S8.out, HT.out.1, HT.out.2.2, HRT.out⟩
   case measure =>
    rw [HME.out, HC6.out]
    have := HT.out.2.1
    have := HT.out.1.hb
    simp [intOf]; omega
  ·have HRE : Hid (R = (⟨k, left, now, out, many, begun⟩, gi)) := by
    show _ = _
    rw [← HR'.out, show 2402 - begun = (2401 - begun) + 1 by omega, loopW, if_neg hcond]
   have HRX := HRR.out
   rw [HRE.out] at HRX
   simp only at HRX
   obtain ⟨t1, t2, t3⟩ := tail_ok HMS.out hpos (ex, ey) n HB'.out HO'.out hcond hg0 hg1 hn1
   rw [HRX] at t1 t2
   have HT : Hid (WB ms (c + 1) RR ∧ okW RR) := ⟨t1, t2⟩
   have HT3 : Hid (WB ms (c + 1) (lessW ⟨k, left, now, out, many, begun⟩ (n - gi))) := t3
   have HRY : Hid _ := HRX
   have hways : decide (left < n - gi) = false ∨ (decide (left < n - gi) = true ∧ decide ((many : Int) ≤ 600) = false) ∨ (decide (left < n - gi) = true ∧ decide ((many : Int) ≤ 600) = true ∧ decide ((begun : Int) ≤ 2400) = false) := by
    by_cases h1 : left < n - gi
    ·by_cases h2 : many ≤ 600
     ·have h3 : ¬ begun ≤ 2400 := fun e => hcond ⟨h1, h2, e⟩
      exact Or.inr (Or.inr ⟨decide_eq_true h1, by simp; omega, by simp; omega⟩)
     ·exact Or.inr (Or.inl ⟨decide_eq_true h1, by simp; omega⟩)
    ·exact Or.inl (decide_eq_false h1)
   obtain ⟨lf, hlf⟩ : ∃ lf : Int, left - (n - gi) = lf := ⟨_, rfl⟩
   have hwl : IntKind.i64.wrap (left - (n - gi)) = lf := by rw [IntWalk.i64_in _ ⟨by omega, by omega⟩]; exact hlf
   obtain ⟨s1, s2⟩ := WH.setL DH1.out lf
   obtain ⟨W5, hW5⟩ : ∃ W5, wr.setCell ⟨bx, 2, none⟩ (.int .i64 lf) = W5 := ⟨_, rfl⟩
   rw [hW5] at s1 s2
   have HW5 : Hid (_ = W5) := hW5
   have HLW : Hid (lessW ⟨k, left, now, out, many, begun⟩ (n - gi) = ⟨k, lf, now, out, many, begun⟩) := by
    show _ = _
    unfold lessW
    simp only [hlf]
   have S5 : Hid (WhS bx w0 W5 ((ba + 1, ex, ey) :: (ba, ax, ay) :: K) na nc ms ⟨k, lf, now, out, many, begun⟩) := by
    have hk5 := Kb.set HKR.out 2 (.int .i64 lf)
    rw [hW5] at hk5
    exact WhS.of (s := ⟨k, lf, now, out, many, begun⟩) s1 (by assumption) (Below.trans HNR.out (Below.mono s2 hb0)) rfl rfl rfl rfl rfl hk5
   obtain ⟨q2, q3⟩ := WhS.at S5.out (b := ba + 1) (x := ex) (y := ey) (by simp)
   rw [HLW.out] at HT3
   clear t1 t2 t3 HRX hW5 s1 s2 hlf hcond HR' HRE HD DH1 HKR HNR
   by_cases hnp : 0 < n
   ·have dn : decide (0 < n) = true := decide_eq_true hnp
    have HTL : Hid (goW ms (ex, ey) (addW ⟨k, lf, now, out, many, begun⟩ (ex, ey)) = RR) := by
     show _ = _
     rw [← HRY.out]
     unfold tailW
     rw [if_pos hnp, HLW.out]
    have HA : Hid _ := sadd w0 W5 bx _ na nc ms ⟨k, lf, now, out, many, begun⟩ ex ey hb0 (by have := HB'.out.hm; have : many + now.length ≤ 2 * begun + c := this; show now.length ≤ _; omega) S5.out
    clear hnp
    rcases hways with d1 | ⟨d1, d2⟩ | ⟨d1, d2, d3⟩
    all_goals
     rw [← HW5.out] at q2 q3
     go_wp2_with fail
     rw [HW5.out]
     refine Calls.mono HA.out ?_
     rintro e w7 ⟨rfl, h7⟩
     have S7 : Hid (WhS bx w0 w7 ((ba + 1, ex, ey) :: (ba, ax, ay) :: K) na nc ms (addW ⟨k, lf, now, out, many, begun⟩ (ex, ey))) := h7
     obtain ⟨y0, y1⟩ := WhS.at h7 (b := ba + 1) (x := ex) (y := ey) (by simp)
     have HX : Hid _ := snext w0 w7 bx _ na nc ms (addW ⟨k, lf, now, out, many, begun⟩ (ex, ey)) ex ey (c + 1 + 1) hb0 HI.out HMS.out hl (by omega) (WB.add HT3.out (ex, ey)) S7.out
     rw [HTL.out] at HX
     clear h7 q2 q3 HA S5
     go_wp2_with fail
     refine Calls.mono HX.out ?_
     rintro e w8 ⟨rfl, h8⟩
     have S8 : Hid (WhS bx w0 w8 K na nc ms RR) := WhS.sub h8 KS.out
     clear h8 y0 y1 S7 HX
     go_wp2
     go_end0
     exact ⟨rfl, S8.out, HT.out.1, HT.out.2⟩
   ·have dn : decide (0 < n) = false := decide_eq_false hnp
    have HTL : Hid (⟨k, lf, now, out, many, begun⟩ = RR) := by
     show _ = _
     rw [← HRY.out]
     unfold tailW
     rw [if_neg hnp, HLW.out]
    clear hnp q2 q3
    have S8 : Hid (WhS bx w0 W5 K na nc ms RR) := by
     show WhS _ _ _ _ _ _ _ _
     rw [← HTL.out]; exact WhS.sub S5.out KS.out
    rcases hways with d1 | ⟨d1, d2⟩ | ⟨d1, d2, d3⟩
    all_goals
     go_wp2
     rw [HW5.out]
     go_end0
     exact ⟨rfl, S8.out, HT.out.1, HT.out.2⟩
def anyN (ns : List Int) : Bool := ns.any fun x => decide (0 < x)
theorem any_sum {ns : List Int} (h : ∀ i, i < ns.length → 0 ≤ intAt ns i) : ∀ k, k ≤ ns.length → (0 ≤ sumN ns k) ∧ (sumN ns k = 0 ↔ ∀ i, i < k → intAt ns i = 0)
 | 0, _ => ⟨Int.le_refl _, ⟨fun _ i hi => absurd hi (by omega), fun _ => rfl⟩⟩
 | k + 1, hk => by
  obtain ⟨h1, h2⟩ := any_sum h k (by omega)
  have h3 := h k (by omega)
  have e : sumN ns (k + 1) = sumN ns k + intAt ns k := rfl
  rw [e]
  refine ⟨by omega, ⟨fun h4 i hi => ?_, fun h4 => ?_⟩⟩
  ·have a1 : sumN ns k = 0 := by omega
   have a2 : intAt ns k = 0 := by omega
   rcases Nat.lt_succ_iff_lt_or_eq.1 hi with h5 | h5
   ·exact h2.1 a1 i h5
   ·rw [h5]; exact a2
  ·rw [h2.2 (fun i hi => h4 i (by omega)), h4 k (by omega)]; rfl
theorem any_is {ns : List Int} (h : ∀ i, i < ns.length → 0 ≤ intAt ns i) : anyN ns = !decide (sumN ns ns.length = 0) := by
 obtain ⟨_, h2⟩ := any_sum h ns.length (Nat.le_refl _)
 unfold anyN
 rw [Bool.eq_iff_iff]
 simp only [List.any_eq_true, decide_eq_true_eq, Bool.not_eq_true', decide_eq_false_iff_not]
 constructor
 ·rintro ⟨x, hx, h0⟩ e
  obtain ⟨i, hi, rfl⟩ := List.getElem_of_mem hx
  have := h2.1 e i hi
  unfold intAt at this
  rw [show ns.getD i 0 = ns[i] by simp [hi]] at this
  omega
 ·intro e
  by_cases hh : ∃ x, x ∈ ns ∧ 0 < x
  ·exact hh
  ·refine absurd (h2.2 fun i hi => ?_) e
   have h3 := h i hi
   unfold intAt at h3 ⊢
   rw [show ns.getD i 0 = ns[i] by simp [hi]] at h3 ⊢
   have : ¬ 0 < ns[i] := fun e => hh ⟨_, List.getElem_mem hi, e⟩
   omega
set_option maxHeartbeats 1000000 in
theorem sany (w : World) (a : Option Addr) (c : Nat) (ns : List Int) (hl : ns.length ≤ 8) (hr : Ints w a ns) :
  Calls Tryz.prog 65 #[.slice a ns.length c] w fun e w' => e = .returned (.bool (anyN ns)) ∧ w' = w := by
 have HR : Hid (Ints w a ns) := hr
 clear hr
 obtain ⟨V, hV⟩ : ∃ V, anyN ns = V := ⟨_, rfl⟩
 rw [hV]
 have HV : Hid (anyN ns = V) := hV
 obtain ⟨n, hn⟩ : ∃ n, ns.length = n := ⟨_, rfl⟩
 have HN : Hid (ns.length = n) := hn
 rw [hn] at hl ⊢
 clear hn hV
 go_enter Tryz.func65, Tryz.ntmps65
 go_wp2
 go_loop [7] (fun i => ∃ k : Nat, k ≤ n ∧ i = .int .i64 (k : Int) ∧ ∀ j, j < k → ¬ 0 < intAt ns j) (fun i => n - (intOf i).toNat)
 case atStart => exact ⟨0, Nat.zero_le _, rfl, fun j hj => absurd hj (by omega)⟩
 case round =>
  obtain ⟨k, hk, rfl, ha⟩ := hrel
  have HA : Hid _ := ha
  clear ha
  by_cases hlt : k < n
  ·rcases HR.out with h | ⟨b, off, rfl, hbb, hc⟩
   ·have := HN.out; rw [h] at this; simp at this; omega
   have q := hc k (by rw [HN.out]; exact hlt)
   obtain ⟨x, hx⟩ : ∃ x, intAt ns k = x := ⟨_, rfl⟩
   have HX : Hid (intAt ns k = x) := hx
   rw [hx] at q
   clear hc hx
   by_cases h0 : 0 < x
   ·have d0 : decide (0 < x) = true := decide_eq_true h0
    have HT : Hid (V = true) := by
     show _ = _
     rw [← HV.out]
     unfold anyN
     rw [List.any_eq_true]
     refine ⟨ns[k]'(by rw [HN.out]; exact hlt), List.getElem_mem _, ?_⟩
     have e := HX.out
     unfold intAt at e
     rw [show ns.getD k 0 = ns[k]'(by rw [HN.out]; exact hlt) by simp [HN.out, hlt]] at e
     rw [e]; exact d0
    clear h0
    go_wp2
    go_ret
    exact ⟨by rw [HT.out]; rfl, rfl⟩
   ·have d0 : decide (0 < x) = false := decide_eq_false h0
    have H0 : Hid (¬ 0 < x) := h0
    clear h0
    go_wp2
    go_round
    case rel =>
     refine ⟨k + 1, by omega, by go_num, fun j hj => ?_⟩
     rcases Nat.lt_succ_iff_lt_or_eq.1 hj with h | h
     ·exact HA.out j h
     ·rw [h, HX.out]; exact H0.out
    case measure => simp [intOf]; omega
  ·have hkn : k = n := by omega
   have HF : Hid (V = false) := by
    show _ = _
    rw [← HV.out]
    unfold anyN
    rw [List.any_eq_false]
    intro x hx
    obtain ⟨i, hi, rfl⟩ := List.getElem_of_mem hx
    have := HA.out i (by rw [HN.out] at hi; omega)
    unfold intAt at this
    rw [show ns.getD i 0 = ns[i] by simp [hi]] at this
    simpa using this
   subst hkn
   clear hk hlt
   go_wp2
   go_ret
   exact ⟨by rw [HF.out]; rfl, rfl⟩
theorem wp_inz (w : World) {ops : Array Oper} {rest : List Oper} {o : Oper} {a : Act} {Q : PQ} (hgd : o.guard = none) (s x : Operand)
  (ho : o.op = .call { callee := .builtin .append, args := #[s, x], argTypes := #[26, 26] })
  (B : Nat) (v : Value) (l : List Int) (t : List Int) (hs : a.eval s = v) (hown : Ins w B v l) (g off n c : Nat) (hn : t.length = n) (hx : a.eval x = .slice (some ⟨g, off, none⟩) n c) (hc : ∀ i, i < t.length → w.cell? ⟨g, off + i, none⟩ = some (.int .i64 (intAt t i)))
  (h63 : l.length + n ≤ 10000000) (hB : B ≤ w.heap.size)
  (h : ∀ v' w', Ins w' B v' (l ++ t) → Ext v v' w w' → wpList Tryz.prog ops Q rest (a.put o.dst v') w') : wpList Tryz.prog ops Q (o :: rest) a w := by
 obtain ⟨i0, hi, hz0, hz1, hz2⟩ := ins_parts
 refine wpList_append_own_at w hgd s x 26 ho B 3 i0 (.int .i64 0) 1 8 Tryz.underlying26 hi hz0 hz1 hz2 rfl (by decide) v l.length (l.map (Value.int .i64)) hs hown ⟨g, off, none⟩ n c (t.map (Value.int .i64)) hx (by rw [List.length_map]; omega) (fun j u hj => ?_) (fun u hu => ?_) (by unfold maxLen; omega) (by omega) hB ?_
 ·rw [List.getElem?_map] at hj
  obtain ⟨y, hy, rfl⟩ := Option.map_eq_some_iff.1 hj
  obtain ⟨hlt, hy2⟩ := List.getElem?_eq_some_iff.1 hy
  have := hc j hlt
  unfold intAt at this
  rw [show t.getD j 0 = t[j] by simp [hlt], hy2] at this
  rcases Nat.eq_zero_or_pos j with e | e
  ·subst e; simpa [Addr.add] using this
  ·simpa [Addr.add, show j ≠ 0 by omega] using this
 ·obtain ⟨y, _, rfl⟩ := List.mem_map.1 hu
  rfl
 ·intro v' w' h1 h2 _ h4
  refine h v' w' ?_ ⟨h2, h4.imp id fun e => ⟨_, e, Nat.le_refl _⟩⟩
  unfold Ins
  rw [List.length_append, List.map_append, hn]
  exact h1
theorem Ins.ints {w : World} {B : Nat} {v : Value} {l : List Int} (h : Ins w B v l) (h0 : 0 < l.length) : ∃ g c, v = .slice (some ⟨g, 0, none⟩) l.length c ∧ Ints w (some ⟨g, 0, none⟩) l := by
 rcases Ins.lay h with ⟨_, e⟩ | ⟨g, c, e, _, h1, h2, _⟩
 ·rw [e] at h0; simp at h0
 ·exact ⟨g, c, e, Or.inr ⟨g, 0, rfl, h1, fun i hi => by rw [Nat.zero_add]; exact h2 i hi⟩⟩
set_option maxRecDepth 100000 in
set_option maxHeartbeats 2000000 in
theorem sown (w : World) (g off c : Nat) (p : List Pnt) (cl : Bool) (h0 : 0 < p.length) (h1 : p.length ≤ 100000) (hr : LieP w g off p) :
  Calls Tryz.prog 66 #[.agg #[.slice (some ⟨g, off, none⟩) p.length c, .bool cl]] w fun e w' => ∃ u, e = .returned (.agg #[u, .bool cl]) ∧ OwnP w' w.heap.size u p ∧ Nw w w' := by
 obtain ⟨n, hn⟩ : ∃ n, p.length = n := ⟨_, rfl⟩
 have HL : Hid (p.length = n) := hn
 rw [hn] at h0 h1 ⊢
 obtain ⟨W, hW⟩ : ∃ W, (w.alloc (.cells #[.slice (some ⟨g, off, none⟩) n c, .bool cl] 25)).alloc (.cells #[.slice none 0 0, .bool false] 25) = W := ⟨_, rfl⟩
 have NW0 : Hid (Nw w W) := by
  show Nw _ _
  rw [← hW]; exact Nw.trans ((Below.refl _ _).alloc (Nat.le_refl _) _) ((Below.refl _ _).alloc (Nat.le_refl _) _)
 have HB0 : Hid (∀ w', Nw W w' → (w'.cell? ⟨w.heap.size, 0, none⟩ = some (.slice (some ⟨g, off, none⟩) n c) ∧ w'.cell? ⟨w.heap.size, 1, none⟩ = some (.bool cl) ∧ (∀ o, w'.frozen? ⟨w.heap.size, o, none⟩ = false)) ∧ (w'.cell? ⟨w.heap.size + 1, 0, none⟩ = some (.slice none 0 0) ∧ w'.cell? ⟨w.heap.size + 1, 1, none⟩ = some (.bool false) ∧ (∀ o, w'.frozen? ⟨w.heap.size + 1, o, none⟩ = false))) := by
  intro w' k
  have e1 : W.heap.size = w.heap.size + 1 + 1 := by rw [← hW]; simp
  have a0 : W.cell? ⟨w.heap.size, 0, none⟩ = some (.slice (some ⟨g, off, none⟩) n c) := by rw [← hW, World.cell?_alloc_past _ _ _ (by simp), World.cell?_alloc_at _ _ _ _ rfl]; rfl
  have a1 : W.cell? ⟨w.heap.size, 1, none⟩ = some (.bool cl) := by rw [← hW, World.cell?_alloc_past _ _ _ (by simp), World.cell?_alloc_at _ _ _ _ rfl]; rfl
  have a2 : ∀ o, W.frozen? ⟨w.heap.size, o, none⟩ = false := fun o => by
   rw [← hW]
   exact ((bcell ((Below.refl _ _).alloc (Nat.le_refl _) _ : Nw (w.alloc (.cells #[.slice (some ⟨g, off, none⟩) n c, .bool cl] 25)) _)).2 _ _ (by simp)).trans (World.frozen?_alloc_at _ _ _ _ rfl)
  have b0 : W.cell? ⟨w.heap.size + 1, 0, none⟩ = some (.slice none 0 0) := by rw [← hW, World.cell?_alloc_at _ _ _ _ (by simp)]; rfl
  have b1 : W.cell? ⟨w.heap.size + 1, 1, none⟩ = some (.bool false) := by rw [← hW, World.cell?_alloc_at _ _ _ _ (by simp)]; rfl
  have b2 : ∀ o, W.frozen? ⟨w.heap.size + 1, o, none⟩ = false := fun o => by rw [← hW]; exact World.frozen?_alloc_at _ _ _ _ (by simp)
  exact ⟨⟨((bcell k).1 _ _ (by omega)).trans a0, ((bcell k).1 _ _ (by omega)).trans a1, fun o => ((bcell k).2 _ _ (by omega)).trans (a2 o)⟩, ⟨((bcell k).1 _ _ (by omega)).trans b0, ((bcell k).1 _ _ (by omega)).trans b1, fun o => ((bcell k).2 _ _ (by omega)).trans (b2 o)⟩⟩
 have HWS : Hid (W.heap.size = w.heap.size + 2) := by show _ = _; rw [← hW]; simp
 have HW : Hid (_ = W) := hW
 have n1 : Nw W (W.alloc (.cells #[] 34)) := (Below.refl _ _).alloc (Nat.le_refl _) _
 have HO : Hid (OwnQ 34 (W.alloc (.cells #[] 34)) W.heap.size (.slice (some ⟨W.heap.size, 0, none⟩) 0 0) []) := World.ownsRow_lit W #[] 0 (Nat.le_refl _) (by unfold maxLen; omega) (by simp)
 have HI : Hid _ := (LieP.nw hr (Nw.trans NW0.out n1)).vv
 have HN : Hid (0 < p.length ∧ p.length ≤ 100000) := by rw [hn]; exact ⟨h0, h1⟩
 have NW : Hid (Nw W (W.alloc (.cells #[] 34))) := n1
 obtain ⟨⟨q0, q1, qf⟩, _⟩ := HB0.out _ n1
 have q0' : (W.alloc (.cells #[] 34)).cell? ⟨w.heap.size, 0, none⟩ = some (.slice (some ⟨g, off, none⟩) n c) := q0
 rw [← hW] at q0'
 clear hr n1 hn hW q1 qf q0
 go_enter Tryz.func66, Tryz.ntmps66
 go_wp2_with (at_builtin; (rw [HW.out]; refine wpl_q 34 23 23 (.int .i64 0) (.int .i64 0) 16 under_pts under_pts Tryz.info34 (by decide) rfl (W.alloc (.cells #[] 34)) (.tmp 3) (.tmp 5) rfl W.heap.size (.slice (some ⟨W.heap.size, 0, none⟩) 0 0) [] (vP p) ?e1 HO.out g off n c (by rw [vP_len]; exact HL.out.symm) rfl HI.out (vP_one p) (by rw [vP_len]; exact HN.out.1) ?cl (by simp) rfl ?_))
 case e1 => simp [HWS.out]; rfl
 case cl => rw [vP_len]; have := HN.out; simp; omega
 intro g' c' w1 h2 h3
 have H2 : Hid (OwnP w1 W.heap.size (.slice (some ⟨g', 0, none⟩) n c') p) := by
  show OwnQ _ _ _ _ _
  simpa using h2
 have N2 : Hid (Nw W w1) := Below.trans NW.out (Ext.below h3 (fun g e => (OwnQ.lt HO.out g e).1) (by simp))
 obtain ⟨⟨q0, q1, qf⟩, ⟨z0, z1, zf⟩⟩ := HB0.out w1 N2.out
 have hg' := (OwnQ.lt H2.out g' rfl).1
 have hne : ∀ b, b < w.heap.size + 2 → (Value.slice (some ⟨g', 0, none⟩) n c').ownBlock ≠ some b := fun b hb e => by
  have : g' = b := by simpa [Value.ownBlock] using e
  have := HWS.out
  omega
 have HF : Hid (OwnP (((w1.setCell ⟨w.heap.size, 0, none⟩ (.slice (some ⟨g', 0, none⟩) n c')).setCell ⟨w.heap.size + 1, 0, none⟩ (.slice (some ⟨g', 0, none⟩) n c')).setCell ⟨w.heap.size + 1, 1, none⟩ (.bool cl)) w.heap.size (.slice (some ⟨g', 0, none⟩) n c') p) := OwnQ.base (OwnQ.far (OwnQ.far (OwnQ.far H2.out _ _ _ (hne _ (by omega))) _ _ _ (hne _ (by omega))) _ _ _ (hne _ (by omega))) (by have := HWS.out; omega)
 have HNF : Hid (Nw w (((w1.setCell ⟨w.heap.size, 0, none⟩ (.slice (some ⟨g', 0, none⟩) n c')).setCell ⟨w.heap.size + 1, 0, none⟩ (.slice (some ⟨g', 0, none⟩) n c')).setCell ⟨w.heap.size + 1, 1, none⟩ (.bool cl))) := (((Nw.trans NW0.out N2.out).setCell (Nat.le_refl _) _).setCell (by simp) _).setCell (by simp) _
 have y0 : (w1.setCell ⟨w.heap.size, 0, none⟩ (.slice (some ⟨g', 0, none⟩) n c')).cell? ⟨w.heap.size, 1, none⟩ = some (.bool cl) := by
  rw [World.cell?_setCell_other _ _ _ _ (fun e => by injection e; omega)]; exact q1
 have y1 : (w1.setCell ⟨w.heap.size, 0, none⟩ (.slice (some ⟨g', 0, none⟩) n c')).cell? ⟨w.heap.size, 0, none⟩ = some (.slice (some ⟨g', 0, none⟩) n c') := World.cell?_setCell_same w1 ⟨w.heap.size, 0, none⟩ _ q0
 have x0 : (w1.setCell ⟨w.heap.size, 0, none⟩ (.slice (some ⟨g', 0, none⟩) n c')).cell? ⟨w.heap.size + 1, 0, none⟩ = some (.slice none 0 0) := by
  rw [World.cell?_setCell_other _ _ _ _ (fun e => by injection e; omega)]; exact z0
 have x1 : (w1.setCell ⟨w.heap.size, 0, none⟩ (.slice (some ⟨g', 0, none⟩) n c')).cell? ⟨w.heap.size + 1, 1, none⟩ = some (.bool false) := by
  rw [World.cell?_setCell_other _ _ _ _ (fun e => by injection e; omega)]; exact z1
 clear h2 h3 q0' hg' hne z0 z1
 go_wp2
 obtain ⟨r0, r1⟩ := set2 (w1.setCell ⟨w.heap.size, 0, none⟩ (.slice (some ⟨g', 0, none⟩) n c')) (w.heap.size + 1) (.slice (some ⟨g', 0, none⟩) n c') (.bool cl) x0 x1
 refine bodyPost_ret (v := .agg #[.slice (some ⟨g', 0, none⟩) n c', .bool cl]) (by simp [results, Tryz.results66, go_sem, r0, r1]) rfl ⟨_, rfl, HF.out, HNF.out⟩
theorem twice_at {ns : List Int} (h : NB ns) : ∀ i, i < (twiceL ns).length → 0 ≤ intAt (twiceL ns) i ∧ intAt (twiceL ns) i ≤ 67108864 := fun i hi => by
 have := (twice_is h.1).same i
 rw [Nat.mod_eq_of_lt hi] at this
 rw [this]
 exact h.2 _ (Nat.mod_lt _ h.1)
theorem twice_sum {ns : List Int} (h : NB ns) : ∀ k, k ≤ (twiceL ns).length → sumN (twiceL ns) k = sumR ns k
 | 0, _ => rfl
 | k + 1, hk => by
  have e := (twice_is h.1).same k
  rw [Nat.mod_eq_of_lt (by omega)] at e
  show sumN (twiceL ns) k + intAt (twiceL ns) k = sumR ns k + intAt ns (k % ns.length)
  rw [twice_sum h k (by omega), e]
set_option maxRecDepth 100000 in
set_option maxHeartbeats 4000000 in
theorem sdashB (w : World) (g off pc : Nat) (p : List Pnt) (cl : Bool) (na : Option Addr) (nc : Nat) (ns : List Int) (f : Int) (h0 : 0 < p.length) (h6 : p.length ≤ 600) (hl : ns.length ≤ 8) (hb : ∀ i, i < ns.length → 0 ≤ intAt ns i) (hs : sumN ns ns.length = 0) (hL : LieP w g off p) (hI : Ints w na ns) :
  Calls Tryz.prog 39 #[.agg #[.slice (some ⟨g, off, none⟩) p.length pc, .bool cl], .slice na ns.length nc, .int .i64 f] w fun e w' => ∃ v, e = .returned (.tuple #[v, .bool true]) ∧ LsOk w' w.heap.size v [⟨p, cl⟩] ∧ Nw w w' := by
 obtain ⟨W1, hW1⟩ : ∃ W1, w.alloc (.cells #[.slice (some ⟨g, off, none⟩) p.length pc, .bool cl] 25) = W1 := ⟨_, rfl⟩
 have N1 : Hid (Nw w W1) := by show Nw _ _; rw [← hW1]; exact (Below.refl _ _).alloc (Nat.le_refl _) _
 have q0 : W1.cell? ⟨w.heap.size, 0, none⟩ = some (.slice (some ⟨g, off, none⟩) p.length pc) := by rw [← hW1, World.cell?_alloc_at _ _ _ _ rfl]; rfl
 have q1 : W1.cell? ⟨w.heap.size, 1, none⟩ = some (.bool cl) := by rw [← hW1, World.cell?_alloc_at _ _ _ _ rfl]; rfl
 have HW1 : Hid (_ = W1) := hW1
 have HA : Hid _ := sany W1 na nc ns hl (Ints.nw hI N1.out)
 rw [any_is hb, hs] at HA
 have HO : Hid _ := sown W1 g off pc p cl h0 (by omega) (LieP.nw hL N1.out)
 clear hW1 hL hI hb hs
 generalize p.length = np at *
 generalize ns.length = nn at *
 go_enter Tryz.func39, Tryz.ntmps39
 go_wp2_with fail
 rw [HW1.out]
 refine Calls.mono HA.out ?_
 rintro e w2 ⟨rfl, rfl⟩
 go_wp2_with fail
 refine Calls.mono HO.out ?_
 rintro e w3 ⟨u, rfl, o3, n3⟩
 obtain ⟨ua, un, uc, rfl⟩ := OwnQ.slice o3
 have OL := one_ln cl o3 (Below.size n3)
 have N9 : Hid (Nw w (w3.alloc (.cells #[.slice ua un uc, .bool cl] 25))) := Nw.trans N1.out (Nw.trans n3 ((Below.refl _ _).alloc (Nat.le_refl _) _))
 have O9 : Hid (LsOk (w3.alloc (.cells #[.slice ua un uc, .bool cl] 25)) w.heap.size (.slice (some ⟨w3.heap.size, 0, none⟩) 1 1) [⟨p, cl⟩]) := LsOk.of (OwnLn.base OL (Below.size N1.out)) rfl
 clear OL o3 n3 q0 q1
 go_wp2
 go_ret2
 exact ⟨_, rfl, O9.out, N9.out⟩
set_option maxRecDepth 100000 in
set_option maxHeartbeats 16000000 in
theorem sdashC (w : World) (g off pc : Nat) (p : List Pnt) (cl : Bool) (na : Option Addr) (nc : Nat) (ns : List Int) (f : Int) (h0 : 0 < p.length) (h6 : p.length ≤ 600) (hne : nearsB p = true) (hl : ns.length ≤ 8) (hnb : NB ns) (hf0 : 0 ≤ f) (hf1 : f ≤ 67108864) (hs : sumN ns ns.length ≠ 0) (hL : LieP w g off p) (hI : Ints w na ns) :
  Calls Tryz.prog 39 #[.agg #[.slice (some ⟨g, off, none⟩) p.length pc, .bool cl], .slice na ns.length nc, .int .i64 f] w fun e w' => ∃ v, e = .returned (.tuple #[v, .bool (decide ((wk2 ns (f % rndN ns) p cl).many ≤ 600 ∧ (wk2 ns (f % rndN ns) p cl).begun ≤ 2400))]) ∧ LsOk w' w.heap.size v (wk2 ns (f % rndN ns) p cl).out ∧ Nw w w' := by
 obtain ⟨W1, hW1⟩ : ∃ W1, w.alloc (.cells #[.slice (some ⟨g, off, none⟩) p.length pc, .bool cl] 25) = W1 := ⟨_, rfl⟩
 have N1 : Hid (Nw w W1) := by show Nw _ _; rw [← hW1]; exact (Below.refl _ _).alloc (Nat.le_refl _) _
 have q0 : W1.cell? ⟨w.heap.size, 0, none⟩ = some (.slice (some ⟨g, off, none⟩) p.length pc) := by rw [← hW1, World.cell?_alloc_at _ _ _ _ rfl]; rfl
 have q1 : W1.cell? ⟨w.heap.size, 1, none⟩ = some (.bool cl) := by rw [← hW1, World.cell?_alloc_at _ _ _ _ rfl]; rfl
 have LB := World.block_lt_of_cell? W1 ⟨w.heap.size, 0, none⟩ q0
 have CBL : Hid (∀ w', Nw W1 w' → w'.cell? ⟨w.heap.size, 0, none⟩ = some (.slice (some ⟨g, off, none⟩) p.length pc) ∧ w'.cell? ⟨w.heap.size, 1, none⟩ = some (.bool cl)) := fun w' k => ⟨((bcell k).1 _ _ LB).trans q0, ((bcell k).1 _ _ LB).trans q1⟩
 have CPT : Hid (∀ w', Nw W1 w' → ∀ j, j < p.length → w'.cell? ⟨g, off + j * 2, none⟩ = some (.int .i64 (ptAt p j).1) ∧ w'.cell? ⟨g, off + j * 2 + 1, none⟩ = some (.int .i64 (ptAt p j).2)) := fun w' k j hj => (LieP.nw hL (Nw.trans N1.out k)).2 j hj
 have HW1 : Hid (_ = W1) := hW1
 have HA : Hid _ := sany W1 na nc ns hl (Ints.nw hI N1.out)
 rw [any_is (fun i hi => (hnb.2 i hi).1), decide_eq_false hs] at HA
 obtain ⟨nb, no, hna, hcx⟩ : ∃ nb no, na = some ⟨nb, no, none⟩ ∧ ∀ w', Nw W1 w' → ∀ i, i < ns.length → w'.cell? ⟨nb, no + i, none⟩ = some (.int .i64 (intAt ns i)) := by
  rcases hI with hx | ⟨b, off, rfl, hbb, hc⟩
  ·have := hnb.1; rw [hx] at this; simp at this
  ·exact ⟨b, off, rfl, fun w' k i hi => ((bcell (Nw.trans N1.out k)).1 _ _ hbb).trans (hc i hi)⟩
 subst hna
 have HCX : Hid _ := hcx
 have HI1 : Hid (Ints W1 (some ⟨nb, no, none⟩) ns) := Ints.nw hI N1.out
 obtain ⟨ms, hms⟩ : ∃ ms, twiceL ns = ms := ⟨_, rfl⟩
 have HMS : Hid (twiceL ns = ms) := hms
 have hml : ms.length = rndL ns := by rw [← hms]; exact twice_len ns
 have hm16 : ms.length ≤ 16 := by rw [hml]; unfold rndL; split <;> omega
 have HML : Hid (∀ i, i < ms.length → 0 ≤ intAt ms i ∧ intAt ms i ≤ 67108864) := by rw [← hms]; exact twice_at hnb
 have hmp : 0 < ms.length := by rw [← hms]; exact (twice_is hnb.1).pos
 have HNE : Hid (nearsB p = true) := hne
 have HNB : Hid (NB ns) := hnb
 have HSN : Hid (sumN ns ns.length ≠ 0) := hs
 have HW : Hid (wk2 ns (f % rndN ns) p cl = wk2 ns (f % rndN ns) p cl) := rfl
 obtain ⟨RES, hRES⟩ : ∃ RES, wk2 ns (f % rndN ns) p cl = RES := ⟨_, rfl⟩
 have HRES : Hid (wk2 ns (f % rndN ns) p cl = RES) := hRES
 rw [hRES]
 have hnl : 0 < ns.length := hnb.1
 clear hW1 hL hI hcx hne hnb hs HW hRES q0 q1 LB hml
 generalize hnp : p.length = np at *
 have HNP : Hid (p.length = np) := hnp
 generalize hnn : ns.length = nn at *
 have HNN : Hid (ns.length = nn) := hnn
 generalize hmm : ms.length = m at *
 have HM : Hid (ms.length = m) := hmm
 clear hnp hnn hmm
 go_enter Tryz.func39, Tryz.ntmps39
 go_wp2_with fail
 rw [HW1.out]
 refine Calls.mono HA.out ?_
 rintro e w2 ⟨rfl, rfl⟩
 go_upto_if 22 with fail
 go_cut [1] (fun v wx => ∃ mb mo mc, v = .slice (some ⟨mb, mo, none⟩) m mc ∧ Ints wx (some ⟨mb, mo, none⟩) ms ∧ Nw w2 wx)
 case first =>
  by_cases hodd : nn % 2 = 1
  ·have ho1 : ((nn : Int) % 2 == 1) = true := by
    have : (nn : Int) % 2 = 1 := by omega
    rw [this]; rfl
   have hms2 : ms = ns ++ ns := by rw [← HMS.out]; unfold twiceL; rw [HNN.out, if_pos hodd]
   have n1 : Nw w2 (w2.alloc (.cells #[] 3)) := (Below.refl _ _).alloc (Nat.le_refl _) _
   have HO1 : Hid (Ins (w2.alloc (.cells #[] 3)) w2.heap.size (.slice (some ⟨w2.heap.size, 0, none⟩) 0 0) []) := World.ownsRow_lit w2 #[] 0 (Nat.le_refl _) (by unfold maxLen; omega) (by simp)
   have NN1 : Hid (Nw w2 (w2.alloc (.cells #[] 3))) := n1
   clear hodd n1
   go_wp2_with (at_builtin; (refine wp_inz (w2.alloc (.cells #[] 3)) rfl (.tmp 23) (.tmp 24) rfl w2.heap.size (.slice (some ⟨w2.heap.size, 0, none⟩) 0 0) [] ns rfl HO1.out nb no nn nc HNN.out rfl (fun i hi => HCX.out _ NN1.out i (by rw [HNN.out] at hi; exact hi)) (by simp; omega) (by simp) ?_))
   intro v1 w3 h3 x3
   have N3 : Hid (Nw w2 w3) := Below.trans NN1.out (Ins.below HO1.out x3 (by simp))
   have H3 : Hid (Ins w3 w2.heap.size v1 ns) := h3
   clear h3 x3
   go_wp2_with (at_builtin; (refine wp_inz w3 rfl (.tmp 25) (.tmp 26) rfl w2.heap.size v1 ns ns rfl H3.out nb no nn nc HNN.out rfl (fun i hi => HCX.out _ N3.out i (by rw [HNN.out] at hi; exact hi)) (by rw [HNN.out]; omega) (Below.size N3.out) ?_))
   intro v2 w4 h4 x4
   have N4 : Hid (Nw w2 w4) := Below.trans N3.out (Ins.below H3.out x4 (Below.size N3.out))
   rw [← hms2] at h4
   obtain ⟨gb, gc, hv2, hi2⟩ := Ins.ints h4 (by rw [HM.out]; omega)
   rw [HM.out] at hv2
   subst hv2
   have H4 : Hid (Ints w4 (some ⟨gb, 0, none⟩) ms) := hi2
   clear h4 x4 hi2
   go_wp2
   go_meet
   exact ⟨gb, 0, gc, rfl, H4.out, N4.out⟩
  ·have ho1 : ((nn : Int) % 2 == 1) = false := by
    have : (nn : Int) % 2 = 0 := by omega
    rw [this]; rfl
   have hms2 : ms = ns := by rw [← HMS.out]; unfold twiceL; rw [HNN.out, if_neg hodd]
   have hmn : nn = m := by rw [← HM.out, ← HNN.out, hms2]
   have H4 : Hid (Ints w2 (some ⟨nb, no, none⟩) ms) := by rw [hms2]; exact HI1.out
   clear hodd hms2
   go_wp2
   go_meet
   exact ⟨nb, no, nc, by rw [hmn], H4.out, Below.refl _ _⟩
 case rest =>
  obtain ⟨mb, mo, mc, rfl, hi4, n4⟩ := hcut
  generalize hw4 : wc = w4 at *
  clear hw4
  have HI4 : Hid (Ints w4 (some ⟨mb, mo, none⟩) ms) := hi4
  have N4 : Hid (Nw w2 w4) := n4
  clear hi4 n4
  have hrn : Hid (sumN ms m = rndN ns) := by
   show _ = _
   rw [← HM.out, ← HMS.out, twice_sum HNB.out _ (Nat.le_refl _), twice_len, rnd_is]
  have hrp : 0 < rndN ns := by
   have := (sumN_bd HNB.out.2 ns.length (Nat.le_refl _)).1
   have h2 := HSN.out
   rw [← HNN.out] at h2
   unfold rndN
   split <;> omega
  have hrb : rndN ns ≤ 67108864 * 16 := by
   have := (sumN_bd HNB.out.2 ns.length (Nat.le_refl _)).2
   rw [HNN.out] at this
   unfold rndN
   rw [HNN.out]
   split <;> omega
  obtain ⟨f0, hf0'⟩ : ∃ f0, f % rndN ns = f0 := ⟨_, rfl⟩
  have HF0 : Hid (f % rndN ns = f0) := hf0'
  have hfa : 0 ≤ f0 := by rw [← hf0']; exact Int.emod_nonneg _ (by omega)
  have hfb : f0 < rndN ns := by rw [← hf0']; exact Int.emod_lt_of_pos _ hrp
  have htm : f.tmod (rndN ns) = f0 := by rw [Int.tmod_eq_emod_of_nonneg hf0]; exact hf0'
  have HLT : Hid (∀ j, sumR ns j ≤ f0 → j < m) := fun j hj => by
   rw [← HM.out, ← HMS.out, twice_len]
   exact sumR_lt HNB.out hj (by rw [rnd_is]; exact hfb)
  have HAT : Hid (∀ j, j < m → intAt ms j = intAt ns (j % ns.length)) := fun j hj => by
   have := (twice_is HNB.out.1).same j
   rw [HMS.out, HM.out, Nat.mod_eq_of_lt hj] at this
   exact this
  have HMC : Hid (∀ w', Nw w4 w' → ∀ i, i < m → w'.cell? ⟨mb, mo + i, none⟩ = some (.int .i64 (intAt ms i))) := fun w' k i hi => by
   rcases Ints.nw HI4.out k with e | ⟨b, o, e, _, hc⟩
   ·rw [e] at HM; have := HM.out; simp at this; omega
   ·injection e with e; injection e with e1 e2
    subst e1 e2
    exact hc i (by rw [HM.out]; exact hi)
  clear hf0'
  go_wp2
  go_loop [8, 30] (fun s i => ∃ k : Nat, k ≤ m ∧ i = .int .i64 (k : Int) ∧ s = .int .i64 (sumN ms k)) (fun _ i => m - (intOf i).toNat)
  case atStart => exact ⟨0, Nat.zero_le _, rfl, rfl⟩
  case round =>
   obtain ⟨k, hk, rfl, rfl⟩ := hrel
   by_cases hlt : k < m
   ·have q := HMC.out w4 (Below.refl _ _) k hlt
    obtain ⟨b1, b2⟩ := sumN_bd (fun i hi => HML.out i (by rw [HM.out] at hi; exact hi)) k (by rw [HM.out]; exact hk)
    obtain ⟨b3, b4⟩ := HML.out k hlt
    have HS : Hid (sumN ms (k + 1) = sumN ms k + intAt ms k) := rfl
    generalize intAt ms k = x at *
    generalize hs : sumN ms k = s at *
    clear hs
    have hw : IntKind.i64.wrap (s + x) = s + x := IntWalk.i64_in _ ⟨by omega, by omega⟩
    go_wp2
    go_round
    case rel => exact ⟨k + 1, by omega, by go_num, by rw [HS.out]⟩
    case measure => simp [intOf]; omega
   ·have hkm : m = k := by omega
    subst hkm
    have hz0 : ¬ rndN ns = 0 := by omega
    rw [hrn.out]
    obtain ⟨x0, hx0⟩ : ∃ x0, intAt ms 0 = x0 := ⟨_, rfl⟩
    have q := HMC.out w4 (Below.refl _ _) 0 hmp
    rw [hx0, Nat.add_zero] at q
    have HX0 : Hid (intAt ms 0 = x0) := hx0
    obtain ⟨bd, hbd⟩ : ∃ bd, w4.heap.size = bd := ⟨_, rfl⟩
    obtain ⟨W5, hW5⟩ : ∃ W5, w4.alloc (.cells #[.slice (some ⟨mb, mo, none⟩) m mc, .int .i64 0, .int .i64 x0, .slice none 0 0, .slice none 0 0, .int .i64 0, .int .i64 0] 100) = W5 := ⟨_, rfl⟩
    have h5 := WhS.new w4 (some ⟨mb, mo, none⟩) mc ms x0 100
    rw [HM.out, hW5, hbd] at h5
    have H5 : Hid (WhS bd w4 W5 [] (some ⟨mb, mo, none⟩) mc ms ⟨0, x0, [], [], 0, 0⟩) := h5
    have HW5 : Hid (_ = W5) := hW5
    have HBD : Hid (w4.heap.size = bd) := hbd
    clear hlt hk hx0 hbd hW5 h5
    generalize hRN : rndN ns = rn at *
    go_upto_block 2 with fail
    rw [HW5.out, HBD.out]
    go_cut [] (fun wx => ∃ j, sumR ns j ≤ f0 ∧ f0 < sumR ns (j + 1) ∧ WhS bd w4 wx [] (some ⟨mb, mo, none⟩) mc ms ⟨j, sumR ns (j + 1) - f0, [], [], 0, 0⟩)
    case first =>
     go_wp2
     go_loopw [2] (fun fr wr => ∃ j : Nat, fr = .int .i64 (f0 - sumR ns j) ∧ sumR ns j ≤ f0 ∧ WhS bd w4 wr [] (some ⟨mb, mo, none⟩) mc ms ⟨j, intAt ms j, [], [], 0, 0⟩) (fun _ wr => 100 - (intOf ((wr.cell? ⟨bd, 1, none⟩).getD undef)).toNat)
     case atStart => exact ⟨0, by simp [sumR], by simpa [sumR] using hfa, by rw [HX0.out]; exact H5.out⟩
     case round =>
      obtain ⟨j, rfl, hj1, hj2⟩ := hrel
      have HJ : Hid (WhS bd w4 wr [] (some ⟨mb, mo, none⟩) mc ms ⟨j, intAt ms j, [], [], 0, 0⟩) := hj2
      have hjm := HLT.out j hj1
      have HSS : Hid (sumR ns (j + 1) = sumR ns j + intAt ms j) := by show _ = _; rw [HAT.out j hjm]; rfl
      obtain ⟨x1, x2⟩ := HML.out j hjm
      obtain ⟨v, it, u, dh, ho, nj, kj⟩ := hj2
      simp only at dh ho
      have c1 := dh.c1
      have c2 := dh.c2
      have fr := dh.free
      have DJ : Hid _ := dh
      have HO : Hid (it.map (·.2) = []) := ho
      have NJ : Hid (Nw w4 wr) := nj
      have KJ : Hid (Kb bd wr v it u []) := kj
      have HC1 : Hid _ := c1
      have hsn := sumR_nn HNB.out j
      clear dh ho nj kj
      generalize hx : intAt ms j = x at *
      generalize hs : sumR ns j = s at *
      have HX : Hid (intAt ms j = x) := hx
      have HS : Hid (sumR ns j = s) := hs
      clear hx hs
      generalize hF : f0 - s = F at *
      have HFF : Hid (f0 - s = F) := hF
      have hF0 : 0 ≤ F := by omega
      have hF1 : F ≤ 2147483648 := by omega
      have hw1 : IntKind.i64.wrap (F - x) = F - x := IntWalk.i64_in _ ⟨by omega, by omega⟩
      have hw2 : IntKind.i64.wrap (x - F) = x - F := IntWalk.i64_in _ ⟨by omega, by omega⟩
      clear hF
      by_cases hlt2 : F < x
      ·have dl : decide (F < x) = true := decide_eq_true hlt2
       have HE : Hid (sumR ns j ≤ f0 ∧ f0 < sumR ns (j + 1)) := by show _ ∧ _; rw [HSS.out, HS.out]; have := HFF.out; omega
       by_cases hz : F = 0
       ·have dz : decide (0 < F) = false := by simp; omega
        have dx : (x == 0) = false := by simp; omega
        have HR : Hid (WhS bd w4 wr [] (some ⟨mb, mo, none⟩) mc ms ⟨j, sumR ns (j + 1) - f0, [], [], 0, 0⟩) := by
         have e : sumR ns (j + 1) - f0 = x := by rw [HSS.out]; have := HFF.out; omega
         rw [e]; exact HJ.out
        clear hz hlt2
        go_wp2
        go_meet
        exact ⟨j, HE.out.1, HE.out.2, HR.out⟩
       ·have dz : decide (0 < F) = true := by simp; omega
        obtain ⟨s1, s2⟩ := WH.setL DJ.out (x - F)
        have HR : Hid (WhS bd w4 (wr.setCell ⟨bd, 2, none⟩ (.int .i64 (x - F))) [] (some ⟨mb, mo, none⟩) mc ms ⟨j, sumR ns (j + 1) - f0, [], [], 0, 0⟩) :=
         WhS.of s1 HO.out (Below.trans NJ.out (Below.mono s2 (by rw [HBD.out]; exact Nat.le_refl _))) rfl (by show _ = sumR ns (j + 1) - f0; rw [HSS.out]; have := HFF.out; omega) rfl rfl rfl (Kb.set KJ.out 2 _)
        clear hz hlt2 s1 s2
        go_wp2
        go_meet
        exact ⟨j, HE.out.1, HE.out.2, HR.out⟩
      ·have dl : decide (F < x) = false := decide_eq_false hlt2
       have hways : decide (0 < F) = true ∨ (decide (0 < F) = false ∧ (x == 0) = true) := by
        by_cases hz : 0 < F
        ·exact Or.inl (decide_eq_true hz)
        ·exact Or.inr ⟨decide_eq_false hz, by simp; omega⟩
       have H1 : Hid (sumR ns (j + 1) ≤ f0) := by show _ ≤ _; rw [HSS.out]; have := HFF.out; omega
       have hj1m := HLT.out (j + 1) H1.out
       obtain ⟨x', hx'⟩ : ∃ x', intAt ms (j + 1) = x' := ⟨_, rfl⟩
       have HX' : Hid (intAt ms (j + 1) = x') := hx'
       obtain ⟨s1, s2⟩ := WH.setK DJ.out ((j : Int) + 1)
       obtain ⟨t1, t2⟩ := WH.setL s1 x'
       have NJ2 : Hid (Nw w4 (wr.setCell ⟨bd, 1, none⟩ (.int .i64 ((j : Int) + 1)))) := Below.trans NJ.out (Below.mono s2 (by rw [HBD.out]; exact Nat.le_refl _))
       have HR : Hid (WhS bd w4 ((wr.setCell ⟨bd, 1, none⟩ (.int .i64 ((j : Int) + 1))).setCell ⟨bd, 2, none⟩ (.int .i64 x')) [] (some ⟨mb, mo, none⟩) mc ms ⟨j + 1, intAt ms (j + 1), [], [], 0, 0⟩) :=
        WhS.of t1 HO.out (Below.trans NJ2.out (Below.mono t2 (by rw [HBD.out]; exact Nat.le_refl _))) (by show (j : Int) + 1 = ((j + 1 : Nat) : Int); omega) (by show x' = intAt ms (j + 1); exact HX'.out.symm) rfl rfl rfl (Kb.set (Kb.set KJ.out 1 _) 2 _)
       have q := HMC.out _ NJ2.out (j + 1) hj1m
       rw [hx'] at q
       have g1 := s1.c1
       have g2 := s1.c2
       have gf := s1.free
       have hrem : ((j : Int) + 1) % (m : Int) = (j : Int) + 1 := Int.emod_eq_of_lt (by omega) (by omega)
       have hm0 : ¬ m = 0 := by omega
       have HC6 : Hid (((wr.setCell ⟨bd, 1, none⟩ (.int .i64 ((j : Int) + 1))).setCell ⟨bd, 2, none⟩ (.int .i64 x')).cell? ⟨bd, 1, none⟩ = some (.int .i64 ((j : Int) + 1))) := t1.c1
       clear hx' s1 s2 t1 t2 hlt2
       rcases hways with d1 | ⟨d1, d2⟩
       all_goals
        go_wp2
        go_roundw
        case rel => exact ⟨j + 1, by rw [HSS.out]; congr 1; have := HFF.out; omega, H1.out, HR.out⟩
        case measure => rw [HC6.out, HC1.out]; simp [intOf]; omega
    case rest =>
     obtain ⟨j, hja, hjb, hj5⟩ := hcut
     have hjm := HLT.out j hja
     have hj : j = skK ns f0 17 0 := by
      have hrl : rndL ns ≤ 16 := by unfold rndL; rw [HNN.out]; split <;> omega
      have h17 : f0 < sumR ns (0 + 17) := by
       have := sumR_mono HNB.out (rndL ns) (17 - rndL ns)
       rw [show rndL ns + (17 - rndL ns) = 0 + 17 by omega, rnd_is, hRN] at this
       omega
      obtain ⟨g1, g2⟩ := skK_is HNB.out f0 17 0 (by simpa [sumR] using hfa) h17
      have := sumR_lt HNB.out hja g2
      have := sumR_lt HNB.out g1 hjb
      omega
     obtain ⟨L, hLL⟩ : ∃ L, sumR ns (j + 1) - f0 = L := ⟨_, rfl⟩
     have hstep := sumR_step HNB.out j
     have hL0 : 0 < L := by omega
     have hL1 : L ≤ 67108864 := by omega
     rw [hLL] at hj5
     obtain ⟨px, hpx⟩ : ∃ px, (ptAt p 0).1 = px := ⟨_, rfl⟩
     obtain ⟨py, hpy⟩ : ∃ py, (ptAt p 0).2 = py := ⟨_, rfl⟩
     have HP0 : Hid (ptAt p 0 = (px, py)) := by show _ = _; rw [← hpx, ← hpy]
     have HS0 : Hid (wk0 ns f0 (ptAt p 0) = ⟨j, L, if j % 2 = 0 then [(px, py)] else [], [], 0, 0⟩) := by
      show _ = _
      unfold wk0
      rw [HMS.out, HM.out, ← hj, Nat.mod_eq_of_lt hjm, hLL, HP0.out]
     have H6 : Hid (WhS bd w4 wc [] (some ⟨mb, mo, none⟩) mc ms ⟨j, L, [], [], 0, 0⟩) := hj5
     obtain ⟨v, it, u, dh, ho, n6, k6⟩ := hj5
     simp only at dh ho
     have c1 := dh.c1
     have D6 : Hid _ := dh
     have HO6 : Hid (it.map (·.2) = []) := ho
     have N6 : Hid (Nw w4 wc) := n6
     have K6 : Hid (Kb bd wc v it u []) := k6
     obtain ⟨l0, _⟩ := CBL.out wc (Nw.trans N4.out n6)
     obtain ⟨p0, p1⟩ := CPT.out wc (Nw.trans N4.out n6) 0 (by omega)
     simp only [Nat.zero_mul, Nat.add_zero] at p0 p1
     rw [hpx] at p0
     rw [hpy] at p1
     clear dh ho n6 k6 hpx hpy hstep hLL hj hja hjb q H5 HX0
     go_upto_if 102 with fail
     go_cut [] (fun wx => WhS bd w4 wx [] (some ⟨mb, mo, none⟩) mc ms (wk0 ns f0 (ptAt p 0)))
     case first =>
      by_cases hj2 : j % 2 = 0
      ·have hjq : ((j : Int) % 2 == 0) = true := by
        have : (j : Int) % 2 = 0 := by omega
        rw [this]; rfl
       rw [if_pos hj2] at HS0
       obtain ⟨r1, r2⟩ := WH.fresh D6.out px py
       have R1 : Hid (WhS bd w4 ((wc.alloc (.cells #[.int .i64 px, .int .i64 py] 34)).setCell ⟨bd, 3, none⟩ (.slice (some ⟨wc.heap.size, 0, none⟩) 1 1)) [] (some ⟨mb, mo, none⟩) mc ms ⟨j, L, [(px, py)], [], 0, 0⟩) := WhS.of r1 HO6.out (Below.trans N6.out (Below.mono r2 (by rw [HBD.out]; exact Nat.le_refl _))) rfl rfl rfl rfl rfl (Kb.fresh K6.out px py 34)
       have S8 := WH.nw D6.out ((Below.refl _ _).alloc (Nat.le_refl _) _ : Nw wc (wc.alloc (.cells #[.int .i64 px, .int .i64 py] 34)))
       have g3 := S8.c3
       have gf := S8.free
       have hnp0 : 0 < np := h0
       clear hj2 r1 r2 S8
       go_wp2
       go_meet
       rw [HS0.out]
       exact R1.out
      ·have hjq : ((j : Int) % 2 == 0) = false := by
        have : (j : Int) % 2 = 1 := by omega
        rw [this]; rfl
       rw [if_neg hj2] at HS0
       clear hj2
       go_wp2
       go_meet
       rw [HS0.out]
       exact H6.out
     case rest =>
      have H7 : Hid (WhS bd w4 wc [] (some ⟨mb, mo, none⟩) mc ms (wk0 ns f0 (ptAt p 0))) := hcut
      have HB7 : Hid (WB ms 1 (wk0 ns f0 (ptAt p 0)) ∧ okW (wk0 ns f0 (ptAt p 0))) := by
       show _ ∧ _
       rw [HS0.out]
       refine ⟨⟨by show j < _; rw [HM.out]; exact hjm, by show 0 ≤ 0; omega, by show 0 ≤ 2401; omega, ?_, by show _ ≤ L; omega, hL1⟩, Or.inl (by show 0 ≤ L; omega)⟩
       show 0 + (if j % 2 = 0 then [(px, py)] else []).length ≤ 2 * 0 + 1
       split <;> simp
      generalize hs0 : wk0 ns f0 (ptAt p 0) = s0 at *
      have HWS0 : Hid (wk0 ns f0 (ptAt p 0) = s0) := hs0
      clear hcut hs0 c1 l0 p0 p1 D6 H6 HO6 N6 K6
      have hbb : w4.heap.size ≤ bd := by rw [HBD.out]; exact Nat.le_refl _
      go_wp2
      go_loopw [12] (fun i wr => ∃ j1 : Nat, 1 ≤ j1 ∧ j1 ≤ np ∧ i = .int .i64 (j1 : Int) ∧ WhS bd w4 wr [] (some ⟨mb, mo, none⟩) mc ms (segsW ms s0 p (j1 - 1)) ∧ WB ms j1 (segsW ms s0 p (j1 - 1)) ∧ okW (segsW ms s0 p (j1 - 1))) (fun i _ => np - (intOf i).toNat)
      case atStart => exact ⟨1, by omega, by omega, rfl, H7.out, HB7.out.1, HB7.out.2⟩
      case round =>
       obtain ⟨j1, hj1, hj2, rfl, hd, hb, hok⟩ := hrel
       have HD : Hid (WhS bd w4 wr [] (some ⟨mb, mo, none⟩) mc ms (segsW ms s0 p (j1 - 1))) := hd
       have HB : Hid (WB ms j1 (segsW ms s0 p (j1 - 1)) ∧ okW (segsW ms s0 p (j1 - 1))) := ⟨hb, hok⟩
       obtain ⟨_, _, _, _, _, nj, _⟩ := hd
       have NJ : Hid (Nw w2 wr) := Nw.trans N4.out nj
       obtain ⟨l0, l1⟩ := CBL.out wr NJ.out
       clear nj hb hok
       by_cases hlt : j1 < np
       ·obtain ⟨r0, r1⟩ := CPT.out wr NJ.out (j1 - 1) (by omega)
        obtain ⟨r2, r3⟩ := CPT.out wr NJ.out j1 hlt
        have HNJ : Hid (nearB (ptAt p (j1 - 1)) = true ∧ nearB (ptAt p j1) = true) := ⟨nearsB_at HNE.out (j1 - 1) (by rw [HNP.out]; omega), nearsB_at HNE.out j1 (by rw [HNP.out]; omega)⟩
        have HSG : Hid (segsW ms s0 p (j1 + 1 - 1) = segW ms (segsW ms s0 p (j1 - 1)) (ptAt p (j1 - 1)) (ptAt p j1)) := by
         show _ = _
         rw [show j1 + 1 - 1 = (j1 - 1) + 1 by omega, segsW, show j1 - 1 + 1 = j1 by omega]
        generalize hq1 : ptAt p (j1 - 1) = qh at *
        generalize hq2 : ptAt p j1 = qn at *
        obtain ⟨hx, hy⟩ := qh
        obtain ⟨nx, ny⟩ := qn
        simp only at r0 r1 r2 r3
        have HSEG : Hid _ := sseg w4 wr.drew bd [] (some ⟨mb, mo, none⟩) mc ms (segsW ms s0 p (j1 - 1)) hx hy nx ny j1 hbb HNJ.out.1 HNJ.out.2 HI4.out (fun i hi => HML.out i (by rw [HM.out] at hi; exact hi)) (by rw [HM.out]; exact hm16) (by omega) HB.out.1 HB.out.2 (WhS.nw HD.out ((Below.refl _ _).drew))
        rw [← HSG.out] at HSEG
        have wi : IntKind.i64.wrap ((j1 : Int) - 1) = ((j1 - 1 : Nat) : Int) := by rw [IntWalk.i64_in _ ⟨by omega, by omega⟩]; omega
        have hil : j1 - 1 < np := by omega
        have R4 : Hid _ := And.intro (And.intro r0 r1) (And.intro r2 r3)
        have L0 : Hid _ := l0
        clear hq1 hq2 r0 r1 r2 r3 l1
        generalize j1 - 1 = j at *
        go_wp2
        refine reg_change (ops' := opsOf 25 Tryz.f39) (by kernel_rfl) ?_
        refine DW25.run ⟨w.heap.size, bd, g, off, np, pc, j, j1, hx, hy, nx, ny, fun w' => WhS bd w4 w' [] (some ⟨mb, mo, none⟩) mc ms (segsW ms s0 p (j1 + 1 - 1)) ∧ WB ms (j1 + 1) (segsW ms s0 p (j1 + 1 - 1)) ∧ okW (segsW ms s0 p (j1 + 1 - 1)), wr.drew, _⟩ ⟨L0.out, wi, hil, hlt, R4.out.1.1, R4.out.1.2, R4.out.2.1, R4.out.2.2, HSEG.out, rfl, rfl, rfl, rfl⟩ wr rfl ?_
        rintro γ w9 ⟨h9, b9, o9⟩
        have H9 : Hid (WhS bd w4 w9 [] (some ⟨mb, mo, none⟩) mc ms (segsW ms s0 p (j1 + 1 - 1))) := h9
        have B9 : Hid (WB ms (j1 + 1) (segsW ms s0 p (j1 + 1 - 1)) ∧ okW (segsW ms s0 p (j1 + 1 - 1))) := ⟨b9, o9⟩
        clear h9 b9 o9 l0
        simp only [Act.put, List.setIfInBounds_toArray, List.set_cons_zero, List.set_cons_succ]
        go_wp2
        go_roundw
        case rel => exact ⟨j1 + 1, by omega, by omega, by go_num, H9.out, B9.out.1, B9.out.2⟩
        case measure => simp [intOf]; omega
       ·have hjn : j1 = np := by omega
        subst hjn
        have hdl : decide ((j1 : Int) < (j1 : Int)) = false := by simp
        clear hlt hj2
        obtain ⟨S1, hS1⟩ : ∃ S1, wk1 ns f0 p cl = S1 := ⟨_, rfl⟩
        have HS1 : Hid ((if cl then segW ms (segsW ms s0 p (j1 - 1)) (lastP p) (ptAt p 0) else segsW ms s0 p (j1 - 1)) = S1) := by
         show _ = _
         rw [← hS1]
         unfold wk1 wkS
         rw [HMS.out, HWS0.out, HNP.out]
        have HS2 : Hid ((if S1.k % 2 = 0 then endW S1 else S1) = RES) := by
         show _ = _
         rw [← HRES.out, HF0.out]
         unfold wk2
         rw [hS1]
        clear hS1
        go_upto_if 132 with fail
        go_cut [] (fun wx => WhS bd w4 wx [] (some ⟨mb, mo, none⟩) mc ms S1 ∧ WB ms (j1 + 1) S1)
        case first =>
         cases cl with
         | false =>
          have HX : Hid (WhS bd w4 wr [] (some ⟨mb, mo, none⟩) mc ms S1 ∧ WB ms (j1 + 1) S1) := by
           show _ ∧ _
           have e : segsW ms s0 p (j1 - 1) = S1 := HS1.out
           rw [← e]; exact ⟨HD.out, HB.out.1.more⟩
          go_wp2
          go_meet
          exact HX.out
         | true =>
          obtain ⟨r0, r1⟩ := CPT.out wr NJ.out (j1 - 1) (by omega)
          obtain ⟨r2, r3⟩ := CPT.out wr NJ.out 0 (by omega)
          simp only [Nat.zero_mul, Nat.add_zero] at r2 r3
          have HNJ : Hid (nearB (ptAt p (j1 - 1)) = true ∧ nearB (ptAt p 0) = true) := ⟨nearsB_at HNE.out (j1 - 1) (by rw [HNP.out]; omega), nearsB_at HNE.out 0 (by rw [HNP.out]; omega)⟩
          have HSG : Hid (segW ms (segsW ms s0 p (j1 - 1)) (ptAt p (j1 - 1)) (ptAt p 0) = S1) := by
           have e := HS1.out
           unfold lastP at e
           rw [HNP.out] at e
           exact e
          generalize hq1 : ptAt p (j1 - 1) = qh at *
          generalize hq2 : ptAt p 0 = qn at *
          obtain ⟨hx, hy⟩ := qh
          obtain ⟨nx, ny⟩ := qn
          simp only at r0 r1 r2 r3
          have HSEG : Hid _ := sseg w4 wr.drew bd [] (some ⟨mb, mo, none⟩) mc ms (segsW ms s0 p (j1 - 1)) hx hy nx ny j1 hbb HNJ.out.1 HNJ.out.2 HI4.out (fun i hi => HML.out i (by rw [HM.out] at hi; exact hi)) (by rw [HM.out]; exact hm16) (by omega) HB.out.1 HB.out.2 (WhS.nw HD.out ((Below.refl _ _).drew))
          rw [HSG.out] at HSEG
          have wi : IntKind.i64.wrap ((j1 : Int) - 1) = ((j1 - 1 : Nat) : Int) := by rw [IntWalk.i64_in _ ⟨by omega, by omega⟩]; omega
          have hil : j1 - 1 < j1 := by omega
          have R4 : Hid _ := And.intro (And.intro r0 r1) (And.intro r2 r3)
          have L0 : Hid _ := l0
          clear hq1 hq2 r0 r1 r2 r3
          go_wp2
          refine reg_change (ops' := opsOf 27 Tryz.f39) (by kernel_rfl) ?_
          refine DW27.run ⟨w.heap.size, bd, g, off, j1, pc, j1 - 1, hx, hy, nx, ny, fun w' => WhS bd w4 w' [] (some ⟨mb, mo, none⟩) mc ms S1 ∧ WB ms (j1 + 1) S1 ∧ okW S1, wr.drew, _⟩ ⟨L0.out, wi, hil, h0, R4.out.1.1, R4.out.1.2, R4.out.2.1, R4.out.2.2, HSEG.out, rfl, rfl, rfl⟩ wr rfl ?_
          rintro γ w9 ⟨h9, b9, o9⟩
          have H9 : Hid (WhS bd w4 w9 [] (some ⟨mb, mo, none⟩) mc ms S1 ∧ WB ms (j1 + 1) S1) := ⟨h9, b9⟩
          clear h9 b9 o9 l0
          simp only [Act.put, List.setIfInBounds_toArray, List.set_cons_zero, List.set_cons_succ]
          go_wp2
          go_meet
          exact H9.out
        case rest =>
         obtain ⟨ha, hb⟩ := hcut
         have HA9 : Hid (WhS bd w4 wc [] (some ⟨mb, mo, none⟩) mc ms S1) := ha
         have HB9 : Hid (WB ms (j1 + 1) S1) := hb
         obtain ⟨v, it, u, dh, _, _, _⟩ := ha
         have c1 := dh.c1
         clear dh hb
         go_upto_if 152 with fail
         go_cut [] (fun wx => WhS bd w4 wx [] (some ⟨mb, mo, none⟩) mc ms RES)
         case first =>
          have HEND : Hid _ := send w4 wc bd [] (some ⟨mb, mo, none⟩) mc ms S1 hbb (by have := HB9.out.ho; have := HB9.out.hb; omega) (by have := HB9.out.hm; have := HB9.out.hb; omega) HA9.out
          generalize hk1 : S1.k = k1 at *
          by_cases hk2 : k1 % 2 = 0
          ·have hkt : ((k1 : Int) % 2 == 0) = true := by
            have : (k1 : Int) % 2 = 0 := by omega
            rw [this]; rfl
           rw [if_pos hk2] at HS2
           rw [HS2.out] at HEND
           clear hk2 hk1
           go_wp2_with fail
           refine Calls.mono HEND.out ?_
           rintro e w11 ⟨rfl, h11⟩
           have H11 : Hid (WhS bd w4 w11 [] (some ⟨mb, mo, none⟩) mc ms RES) := h11
           clear h11
           go_wp2
           go_meet
           exact H11.out
          ·have hkt : ((k1 : Int) % 2 == 0) = false := by
            have : (k1 : Int) % 2 = 1 := by omega
            rw [this]; rfl
           rw [if_neg hk2] at HS2
           clear hk2 hk1
           go_wp2
           go_meet
           rw [← HS2.out]
           exact HA9.out
         case rest =>
          obtain ⟨v, it, u, dh, ho, nw, _⟩ := hcut
          obtain ⟨va, vc, hv⟩ := D2.vln dh.d
          subst hv
          have DD : Hid _ := WH.nw dh ((Below.refl _ _).drew : Nw wc wc.drew)
          have O13 : Hid (LsOk wc w.heap.size (.slice va it.length vc) RES.out) := LsOk.of (OwnLn.base dh.d.ln (by have := Below.size N1.out; have := Below.size N4.out; omega)) ho
          have N13 : Hid (Nw w wc) := Nw.trans N1.out (Nw.trans N4.out nw)
          clear dh ho nw c1
          generalize it.length = ni at *
          obtain ⟨RM, hRM⟩ : ∃ RM, RES.many = RM := ⟨_, rfl⟩
          obtain ⟨RB, hRB⟩ : ∃ RB, RES.begun = RB := ⟨_, rfl⟩
          rw [hRM, hRB] at DD
          have HRM : Hid (RES.many = RM) := hRM
          have HRB : Hid (RES.begun = RB) := hRB
          clear hRM hRB
          by_cases hm6 : RM ≤ 600
          ·have dm : decide ((RM : Int) ≤ 600) = true := by simp; omega
           obtain ⟨vb, hvb⟩ : ∃ vb, decide ((RB : Int) ≤ 2400) = vb := ⟨_, rfl⟩
           have HE : Hid (vb = decide (RES.many ≤ 600 ∧ RES.begun ≤ 2400)) := by
            show _ = _
            rw [← hvb, HRM.out, HRB.out, Bool.eq_iff_iff]
            simp; omega
           go_wp2
           refine reg_change (ops' := opsOf 30 Tryz.f39) (by kernel_rfl) ?_
           refine DWF.run ⟨bd, va, ni, vc, RM, RB, vb, wc.drew, _⟩ ⟨DD.out.c4, DD.out.c5, DD.out.c6, dm, hvb, rfl, rfl⟩ wc (Kp.refl _) ?_
           intro γ w14 k14
           have n14 : Nw wc w14 := (undrew k14).nw
           have O14 : Hid _ := LsOk.nw O13.out n14
           have N14 : Hid (Nw w w14) := Nw.trans N13.out n14
           clear k14 n14
           simp only [Act.put, List.setIfInBounds_toArray, List.set_cons_zero, List.set_cons_succ]
           go_wp2
           go_ret2
           exact ⟨.slice va ni vc, by rw [← HE.out]; rfl, O14.out, N14.out⟩
          ·have dm : decide ((RM : Int) ≤ 600) = false := by simp; omega
           have HE : Hid (decide (RES.many ≤ 600 ∧ RES.begun ≤ 2400) = false) := by
            show _ = _
            rw [HRM.out]
            simp; omega
           go_wp2
           refine reg_change (ops' := opsOf 30 Tryz.f39) (by kernel_rfl) ?_
           refine DWE.run ⟨bd, va, ni, vc, RM, RB, wc.drew, _⟩ ⟨DD.out.c4, DD.out.c5, dm, rfl, rfl⟩ wc (Kp.refl _) ?_
           intro γ w14 k14
           have n14 : Nw wc w14 := (undrew k14).nw
           have O14 : Hid _ := LsOk.nw O13.out n14
           have N14 : Hid (Nw w w14) := Nw.trans N13.out n14
           clear k14 n14
           simp only [Act.put, List.setIfInBounds_toArray, List.set_cons_zero, List.set_cons_succ]
           go_wp2
           go_ret2
           exact ⟨.slice va ni vc, by rw [HE.out]; rfl, O14.out, N14.out⟩
set_option maxRecDepth 100000 in
set_option maxHeartbeats 8000000 in
theorem idashC (w : World) (pa : Option Addr) (pc : Nat) (p : List Pnt) (cl : Bool) (na : Option Addr) (nc : Nat) (ns : List Int) (f : Int) (hp : p.length ≤ 1048576) (hn : ns.length ≤ 1048576) (hP : Pts w pa p) (hI : Ints w na ns) (hcap : p.length ≤ pc) (hin : dsIn ns f p = true) (hs : sumN ns ns.length ≠ 0) : Calls Tryz.prog 6 #[.agg #[.slice pa p.length pc, .bool cl], .slice na ns.length nc, .int .i64 f] w fun e w' => ∃ v, e = .returned (.tuple #[v, .bool (dsV ns f p cl).2]) ∧ LsOk w' w.heap.size v (dsV ns f p cl).1 ∧ Nw w w' := by
 have HV : Hid (dsV ns f p cl = if 2400 < (dash1 ns f p cl).begun ∨ 600 < manyL (dash1 ns f p cl).o then ([], false) else ((dash1 ns f p cl).o, true)) := by
  show _ = _
  unfold dsV
  rw [if_pos hin, if_neg hs]
 obtain ⟨W1, hW1⟩ : ∃ W1, w.alloc (.cells #[.slice pa p.length pc, .bool cl] 25) = W1 := ⟨_, rfl⟩
 have N1 : Hid (Nw w W1) := by show Nw _ _; rw [← hW1]; exact (Below.refl _ _).alloc (Nat.le_refl _) _
 have q0 : W1.cell? ⟨w.heap.size, 0, none⟩ = some (.slice pa p.length pc) := by rw [← hW1, World.cell?_alloc_at _ _ _ _ rfl]; rfl
 have q1 : W1.cell? ⟨w.heap.size, 1, none⟩ = some (.bool cl) := by rw [← hW1, World.cell?_alloc_at _ _ _ _ rfl]; rfl
 have HQ : Hid (W1.cell? ⟨w.heap.size, 0, none⟩ = some (.slice pa p.length pc) ∧ W1.cell? ⟨w.heap.size, 1, none⟩ = some (.bool cl)) := ⟨q0, q1⟩
 have LB : Hid (w.heap.size < W1.heap.size) := World.block_lt_of_cell? W1 ⟨w.heap.size, 0, none⟩ q0
 have HW1 : Hid (_ = W1) := hW1
 unfold dsIn at hin
 simp only [Bool.and_eq_true] at hin
 obtain ⟨i1, i2, i3⟩ := hin
 have i1' := of_decide_eq_true i1
 obtain ⟨z1, z2, z3⟩ := dsh_NB i3
 have hnn := sum_some hs
 have HNB : Hid (NB ns) := ⟨hnn, z3⟩
 have hsp : 0 < sumN ns ns.length := by have := (sumN_bd z3 ns.length (Nat.le_refl _)).1; omega
 have HNE : Hid (nearsB p = true) := i2
 have H1 : Hid (∀ w, Calls Tryz.prog 26 #[.int .i64 (p.length : Int), .int .i64 1, .int .i64 600] w fun e w' => e = .returned (.bool (decide ((1 : Int) ≤ (p.length : Int) ∧ (p.length : Int) ≤ 600))) ∧ w' = w) := fun w => iin_any w p.length 1 600
 have e1 : decide ((1 : Int) ≤ (p.length : Int) ∧ (p.length : Int) ≤ 600) = true := by simp; omega
 rw [e1] at H1
 have HN : Hid _ := inear W1 pa pc p hp (Pts.nw hP N1.out)
 rw [i2] at HN
 have HD : Hid (∀ w2, Nw W1 w2 → _) := fun w2 (k : Nw W1 w2) => igoodDash w2 na nc ns f hn (Ints.nw hI (Nw.trans N1.out k))
 rw [i3] at HD
 have HS : Hid (∀ w2, Nw W1 w2 → _) := fun w2 (k : Nw W1 w2) => isum w2 na nc ns z1 z3 (Ints.nw hI (Nw.trans N1.out k))
 obtain ⟨g, off, hpa, hlie⟩ := Pts.lie hP (by omega)
 subst hpa
 have HL : Hid (LieP w g off p) := hlie
 have HI : Hid (Ints w na ns) := hI
 obtain ⟨nb, no, hna, hnb, hx0⟩ : ∃ nb no, na = some ⟨nb, no, none⟩ ∧ nb < w.heap.size ∧ w.cell? ⟨nb, no, none⟩ = some (.int .i64 (intAt ns 0)) := by
  rcases hI with e | ⟨b, o, rfl, hb, hc⟩
  ·rw [e] at hnn; simp at hnn
  ·exact ⟨b, o, rfl, hb, hc 0 hnn⟩
 subst hna
 have HX0 : Hid (nb < w.heap.size ∧ w.cell? ⟨nb, no, none⟩ = some (.int .i64 (intAt ns 0))) := ⟨hnb, hx0⟩
 have hsz : (sumN ns ns.length == 0) = false := by simp [hs]
 have HSK : Hid (∀ (V W6 : World), Nw w V → DhS V.heap.size V W6 [] (some ⟨nb, no, none⟩) nc ns ⟨0, intAt ns 0, 0, [], []⟩ → _) := fun V W6 hv h6 => iskip V W6 V.heap.size [] (some ⟨nb, no, none⟩) nc ns f (Nat.le_refl _) z1 ⟨hnn, z3⟩ hsp z2.1 z2.2 (Ints.nw hI hv) h6
 have HDN : Hid (∀ V : World, DhS V.heap.size V (V.alloc (.cells #[.slice (some ⟨nb, no, none⟩) ns.length nc, .int .i64 0, .int .i64 (intAt ns 0), .int .i64 0, .slice none 0 0, .slice none 0 0] 67)) [] (some ⟨nb, no, none⟩) nc ns ⟨0, intAt ns 0, 0, [], []⟩) := fun V => DhS.new V _ nc ns _ _
 have HZ1 : Hid (ns.length ≤ 8) := z1
 have HSD : Hid (DB 0 (startD ns (f % rndN ns))) := by
  have hr : 0 < rndN ns := by unfold rndN; split <;> omega
  exact start_DB ⟨hnn, z3⟩ z1 (Int.emod_nonneg _ (by omega)) (Int.emod_lt_of_pos _ hr)
 clear e1 hW1 hP hI i1 i2 i3 z2 z3 hlie q1 hx0 hs hsp
 generalize intAt ns 0 = x0 at *
 generalize sumN ns ns.length = sn at *
 generalize hnp : p.length = np at *
 have HNP : Hid (p.length = np) := hnp
 clear hnp
 generalize hnl : ns.length = nn at *
 have HNN : Hid (ns.length = nn) := hnl
 clear hnl
 go_enter Tryz.func6, Tryz.ntmps6
 go_wp2_with fail
 rw [HW1.out]
 refine Calls.mono (H1.out _) ?_
 rintro e w2 ⟨rfl, rfl⟩
 go_wp2_with fail
 refine Calls.mono HN.out ?_
 rintro e w3 ⟨rfl, k3⟩
 have N3 : Hid (Nw w w3) := Nw.trans N1.out k3.nw
 have M3 : Hid (Nw w2 w3) := k3.nw
 have HD3 : Hid _ := HD.out w3 k3.nw
 have HS3 : Hid _ := HS.out w3 k3.nw
 clear k3
 go_wp2_with fail
 refine Calls.mono HD3.out ?_
 rintro e w4 ⟨rfl, rfl⟩
 go_wp2_with fail
 refine Calls.mono HS3.out ?_
 rintro e w5 ⟨rfl, rfl⟩
 clear q0
 have x5 := ((bcell N3.out).1 _ _ HX0.out.1).trans HX0.out.2
 have hbn := hnb
 go_wp2_with fail
 refine Calls.mono (HSK.out w5 _ N3.out (HDN.out w5)) ?_
 rintro e w7 ⟨rfl, h7⟩
 obtain ⟨bd, hbd⟩ : ∃ bd, w5.heap.size = bd := ⟨_, rfl⟩
 rw [hbd] at h7 ⊢
 have HBD : Hid (w5.heap.size = bd) := hbd
 have H7 : Hid (DhS bd w5 w7 [] (some ⟨nb, no, none⟩) nc ns (startD ns (f % rndN ns))) := h7
 have BL : Hid (w.heap.size < w5.heap.size) := Nat.lt_of_lt_of_le LB.out (Below.size M3.out)
 have CBL : Hid (∀ w', Nw w5 w' → w'.cell? ⟨w.heap.size, 0, none⟩ = some (.slice (some ⟨g, off, none⟩) np pc) ∧ w'.cell? ⟨w.heap.size, 1, none⟩ = some (.bool cl)) := fun w' k => ⟨((bcell k).1 _ _ BL.out).trans (((bcell M3.out).1 _ _ LB.out).trans HQ.out.1), ((bcell k).1 _ _ BL.out).trans (((bcell M3.out).1 _ _ LB.out).trans HQ.out.2)⟩
 have CPT : Hid (∀ w', Nw w5 w' → ∀ j, j < np → w'.cell? ⟨g, off + j * 2, none⟩ = some (.int .i64 (ptAt p j).1) ∧ w'.cell? ⟨g, off + j * 2 + 1, none⟩ = some (.int .i64 (ptAt p j).2)) := fun w' k j hj => (LieP.nw HL.out (Nw.trans N3.out k)).2 j (by rw [HNP.out]; exact hj)
 obtain ⟨_, _, _, _, _, n7, _⟩ := h7
 obtain ⟨l0, _⟩ := CBL.out w7 n7
 obtain ⟨p0, p1⟩ := CPT.out w7 n7 0 (by omega)
 simp only [Nat.zero_mul, Nat.add_zero] at p0 p1
 obtain ⟨px, hpx⟩ : ∃ px, (ptAt p 0).1 = px := ⟨_, rfl⟩
 obtain ⟨py, hpy⟩ : ∃ py, (ptAt p 0).2 = py := ⟨_, rfl⟩
 have HP0 : Hid (ptAt p 0 = (px, py)) := by show _ = _; rw [← hpx, ← hpy]
 rw [hpx] at p0
 rw [hpy] at p1
 obtain ⟨W8, hW8⟩ : ∃ W8, w7.alloc (.cells #[.int .i64 px, .int .i64 py] 34) = W8 := ⟨_, rfl⟩
 have h8 := DhS.box H7.out px py 34
 rw [hW8] at h8
 obtain ⟨bh, hbh⟩ : ∃ bh, w7.heap.size = bh := ⟨_, rfl⟩
 rw [hbh] at h8
 have HBH : Hid (w7.heap.size = bh) := hbh
 have H8 : Hid (DhS bd w5 W8 [(bh, px, py)] (some ⟨nb, no, none⟩) nc ns (startD ns (f % rndN ns))) := h8
 have HW8 : Hid (_ = W8) := hW8
 have HGE : Hid (w5.heap.size ≤ bh) := by show _ ≤ _; rw [← hbh]; exact Below.size n7
 have h00 : 0 < np := by omega
 clear n7 h8 hW8 hbh hpx hpy hbd x5
 go_wp2_with fail
 rw [HW8.out, HBH.out]
 refine Calls.mono (ireach w5 W8 bd _ (some ⟨nb, no, none⟩) nc ns _ px py (by rw [HBD.out]; exact Nat.le_refl _) (by show ([] : List Pnt).length ≤ _; simp) H8.out) ?_
 rintro e w9 ⟨rfl, h9⟩
 have H9 : Hid (DhS bd w5 w9 [(bh, px, py)] (some ⟨nb, no, none⟩) nc ns (reachD (startD ns (f % rndN ns)) (px, py))) := h9
 obtain ⟨_, _, _, _, _, n9, _⟩ := h9
 obtain ⟨l9, _⟩ := CBL.out w9 n9
 clear n9 l0 p0 p1
 have HDB : Hid (DB (0 + 1) (reachD (startD ns (f % rndN ns)) (px, py))) := DB.reach HSD.out (px, py)
 generalize hd1 : reachD (startD ns (f % rndN ns)) (px, py) = d1 at *
 have HD1 : Hid (reachD (startD ns (f % rndN ns)) (px, py) = d1) := hd1
 clear hd1
 go_upto_region 9 with fail
 go_cut [54, 55, 56] (fun s n i wx => ∃ A cc, s = .slice A (np - 1) cc ∧ (1 < np → A = some ⟨g, off + 2, none⟩) ∧ n = .int .i64 ((np - 1 : Nat) : Int) ∧ i = .int .i64 0 ∧ w9 = wx)
 case first =>
  by_cases hpc : pc = 1
  ·go_wp2
   all_goals go_meet
   all_goals exact ⟨_, _, rfl, fun h => absurd h (by omega), by simp, rfl, rfl⟩
  ·go_wp2
   all_goals go_meet
   all_goals exact ⟨_, _, rfl, fun h => by simp, by simp, rfl, rfl⟩
 case rest =>
  obtain ⟨A, cc, rfl, hA, rfl, rfl, hwc⟩ := hcut
  subst hwc
  have HA : Hid (1 < np → A = some ⟨g, off + 2, none⟩) := hA
  clear hA l9
  go_wp2
  go_loopw [56] (fun i wr => ∃ j : Nat, j ≤ np - 1 ∧ i = .int .i64 (j : Int) ∧ DhS bd w5 wr [(bh, (ptAt p j).1, (ptAt p j).2)] (some ⟨nb, no, none⟩) nc ns (segsD ns d1 p j) ∧ DB (j + 1) (segsD ns d1 p j)) (fun i _ => np - (intOf i).toNat)
  case atStart => exact ⟨0, by omega, rfl, by rw [HP0.out]; exact H9.out, HDB.out⟩
  case round =>
   obtain ⟨j, hj, rfl, hdj, hbj⟩ := hrel
   have HDJ : Hid (DhS bd w5 wr [(bh, (ptAt p j).1, (ptAt p j).2)] (some ⟨nb, no, none⟩) nc ns (segsD ns d1 p j)) := hdj
   have HBJ : Hid (DB (j + 1) (segsD ns d1 p j)) := hbj
   obtain ⟨_, _, _, _, _, nj, _⟩ := hdj
   have NJ : Hid (Nw w5 wr) := nj
   clear nj hbj
   by_cases hlt : j < np - 1
   ·have hAe := HA.out (by omega)
    subst hAe
    obtain ⟨r0, r1⟩ := CPT.out wr NJ.out (j + 1) (by omega)
    rw [show off + (j + 1) * 2 = off + 2 + j * 2 by omega] at r0 r1
    have HSG : Hid (segsD ns d1 p (j + 1) = alongD ns (segsD ns d1 p j) (ptAt p j) (ptAt p (j + 1))) := rfl
    have HNJ : Hid (nearB (ptAt p j) = true ∧ nearB (ptAt p (j + 1)) = true) := ⟨nearsB_at HNE.out j (by rw [HNP.out]; omega), nearsB_at HNE.out (j + 1) (by rw [HNP.out]; omega)⟩
    generalize hq1 : ptAt p (j + 1) = qn at *
    have HQ1 : Hid (ptAt p (j + 1) = qn) := hq1
    generalize ptAt p j = qh at *
    obtain ⟨hx, hy⟩ := qh
    obtain ⟨nx, ny⟩ := qn
    simp only at HDJ r0 r1
    clear hq1
    obtain ⟨Wb, hWb⟩ : ∃ Wb, wr.alloc (.cells #[.int .i64 nx, .int .i64 ny] 34) = Wb := ⟨_, rfl⟩
    have hb := DhS.box HDJ.out nx ny 34
    rw [hWb] at hb
    obtain ⟨bn, hbn2⟩ : ∃ bn, wr.heap.size = bn := ⟨_, rfl⟩
    rw [hbn2] at hb
    have HB : Hid (DhS bd w5 Wb [(bn, nx, ny), (bh, hx, hy)] (some ⟨nb, no, none⟩) nc ns (segsD ns d1 p j)) := hb
    obtain ⟨s0, s1⟩ := DhS.at HB.out (b := bh) (x := hx) (y := hy) (by simp)
    have HWb : Hid (_ = Wb) := hWb
    have HBN : Hid (wr.heap.size = bn) := hbn2
    have t0 : (wr.alloc (.cells #[.int .i64 nx, .int .i64 ny] 34)).cell? ⟨bh, 0, none⟩ = some (.int .i64 hx) := by rw [hWb]; exact s0
    have t1 : (wr.alloc (.cells #[.int .i64 nx, .int .i64 ny] 34)).cell? ⟨bh, 1, none⟩ = some (.int .i64 hy) := by rw [hWb]; exact s1
    clear hb hWb hbn2 s0 s1
    have hlt' : j < np - 1 := hlt
    go_wp2_with fail
    rw [HWb.out, HBN.out]
    refine Calls.mono (ialong w5 Wb bd _ (some ⟨nb, no, none⟩) nc ns (segsD ns d1 p j) hx hy nx ny (j + 1) (by rw [HBD.out]; exact Nat.le_refl _) HNJ.out.1 HNJ.out.2 (Ints.nw HI.out N3.out) HNB.out (by omega) (by omega) HBJ.out HB.out) ?_
    rintro e w10 ⟨rfl, h10, b10⟩
    have H10 : Hid _ := h10
    have B10 : Hid _ := b10
    obtain ⟨s0, s1⟩ := DhS.at H10.out (b := bn) (x := nx) (y := ny) (by simp)
    obtain ⟨s2, s3⟩ := DhS.at H10.out (b := bh) (x := hx) (y := hy) (by simp)
    have sf : ∀ o, w10.frozen? ⟨bh, o, none⟩ = false := by
     obtain ⟨_, _, _, _, _, _, kb⟩ := h10
     exact (kb (bh, hx, hy) (by simp)).2.2.1
    have H11 : Hid _ := DhS.move (DhS.sub (K' := [(bh, hx, hy)]) H10.out (fun k hk => by simp at hk; simp [hk])) HGE.out nx ny
    clear h10 b10 t0 t1 r0 r1
    go_wp2
    go_roundw
    case rel => exact ⟨j + 1, by omega, by go_num, by rw [HQ1.out, HSG.out]; exact H11.out, by rw [HSG.out]; exact B10.out⟩
    case measure => simp [intOf]; omega
   ·have hjn : j = np - 1 := by omega
    obtain ⟨l0, l1⟩ := CBL.out wr NJ.out
    obtain ⟨D0, hD0⟩ : ∃ D0, (if cl then alongD ns (segsD ns d1 p j) (ptAt p j) (px, py) else segsD ns d1 p j) = D0 := ⟨_, rfl⟩
    have HDA : Hid (dash1 ns f p cl = layD D0) := by
     show _ = _
     rw [← hD0]
     unfold dash1 dash0 lastP
     rw [HNP.out, HP0.out, HD1.out, hjn]
    have HD0 : Hid (_ = D0) := hD0
    clear hD0
    have HNJ : Hid (nearB (ptAt p j) = true ∧ nearB (px, py) = true) := ⟨nearsB_at HNE.out j (by rw [HNP.out]; omega), by rw [← HP0.out]; exact nearsB_at HNE.out 0 (by rw [HNP.out]; omega)⟩
    have hnl : ¬ j < np - 1 := hlt
    generalize ptAt p j = qh at *
    obtain ⟨hx, hy⟩ := qh
    simp only at HDJ
    cases cl with
    | false =>
     have HX : Hid (DhS bd w5 wr [] (some ⟨nb, no, none⟩) nc ns D0 ∧ DB (j + 2) D0) := by
      have e : segsD ns d1 p j = D0 := HD0.out
      rw [e] at HDJ HBJ
      exact ⟨DhS.sub HDJ.out (fun k hk => absurd hk (by simp)), HBJ.out.more⟩
     have H12 : Hid (DhS bd w5 wr [] (some ⟨nb, no, none⟩) nc ns D0) := HX.out.1
     have B12 : Hid (DB (j + 2) D0) := HX.out.2
     go_wp2_with fail
     refine Calls.mono (ilay w5 wr bd [] (some ⟨nb, no, none⟩) nc ns D0 (by rw [HBD.out]; exact Nat.le_refl _) (by have := B12.out.ho; have := B12.out.hb; omega) H12.out) ?_
     rintro e w13 ⟨rfl, v, it, u, dh, ho, nw13, _⟩
     have HVV : Hid (dsV ns f p false = if 2400 < D0.begun ∨ 600 < manyL (layD D0).o then ([], false) else ((layD D0).o, true)) := by
      show _ = _
      rw [HV.out, HDA.out]
      rfl
     obtain ⟨la, lc, hv, hlines⟩ := OwnLn.lines dh.d.ln
     rw [ho] at hv hlines
     subst hv
     have c3 := dh.c3
     have c5 := dh.c5
     have hbg : (layD D0).begun = D0.begun := rfl
     rw [hbg] at c3
     have hml : manyL (layD D0).o ≤ 10000 := by
      have e := endL_many D0.o D0.p false
      have := B12.out.hm
      have := B12.out.hb
      have := B12.out.hp
      show manyL (endL D0.o D0.p false) ≤ _
      omega
     have hll : (layD D0).o.length ≤ 10000 := by
      have e := endL_len D0.o D0.p false
      have := B12.out.ho
      have := B12.out.hb
      show (endL D0.o D0.p false).length ≤ _
      omega
     have HMA : Hid _ := imany w13 la lc (layD D0).o (by omega) (by omega) hlines
     have O13 : Hid (LsOk w13 w.heap.size (.slice la (layD D0).o.length lc) (layD D0).o) := LsOk.of (OwnLn.base dh.d.ln (by have := Below.size N3.out; have := HBD.out; omega)) ho
     have N13 : Hid (Nw w w13) := Nw.trans N3.out nw13
     have C13 : Hid (bd < w13.heap.size) := dh.lt
     clear dh ho nw13 hlines
     generalize hbb : D0.begun = bb at *
     generalize (layD D0).o.length = ol at *
     by_cases h24 : 2400 < bb
     ·have hd : decide ((2400 : Int) < (bb : Int)) = true := by simp; omega
      have HE : Hid (dsV ns f p false = ([], false)) := by show _ = _; rw [HVV.out, if_pos (Or.inl h24)]
      go_wp2
      go_ret2
      rw [HE.out]
      exact ⟨_, rfl, LsOk.of (OwnLn.nil _ _) rfl, N13.out⟩
     ·have hd : decide ((2400 : Int) < (bb : Int)) = false := by simp; omega
      generalize hmm : manyL (layD D0).o = mm at *
      have HMM : Hid (manyL (layD D0).o = mm) := hmm
      clear hmm
      by_cases h6 : 600 < mm
      ·have hd2 : decide ((600 : Int) < (mm : Int)) = true := by simp; omega
       have HE : Hid (dsV ns f p false = ([], false)) := by show _ = _; rw [HVV.out, if_pos (Or.inr h6)]
       go_wp2_with fail
       refine Calls.mono HMA.out ?_
       rintro e w14 ⟨rfl, k14⟩
       have N14 : Hid (Nw w w14) := Nw.trans N13.out k14.nw
       clear k14
       go_wp2
       go_ret2
       rw [HE.out]
       exact ⟨_, rfl, LsOk.of (OwnLn.nil _ _) rfl, N14.out⟩
      ·have hd2 : decide ((600 : Int) < (mm : Int)) = false := by simp; omega
       have HE : Hid (dsV ns f p false = ((layD D0).o, true)) := by show _ = _; rw [HVV.out, if_neg (by omega)]
       go_wp2_with fail
       refine Calls.mono HMA.out ?_
       rintro e w14 ⟨rfl, k14⟩
       have N14 : Hid (Nw w w14) := Nw.trans N13.out k14.nw
       have O14 : Hid (LsOk w14 w.heap.size (.slice la ol lc) (layD D0).o) := LsOk.nw O13.out k14.nw
       have c5' := ((Kp.cells k14).1 _ _ C13.out).trans c5
       clear k14
       go_wp2
       go_ret2
       rw [HE.out]
       exact ⟨_, rfl, O14.out, N14.out⟩
    | true =>
     have e : alongD ns (segsD ns d1 p j) (hx, hy) (px, py) = D0 := HD0.out
     have nd : Nw wr wr.drew := (Below.refl _ _).drew
     have h0d := DhS.nw HDJ.out nd
     have HC : Hid (Calls Tryz.prog 33 #[.pointer (some ⟨bd, 0, none⟩), .agg #[.int .i64 hx, .int .i64 hy], .agg #[.int .i64 px, .int .i64 py]] wr.drew fun e w' => e = .returned (.tuple #[]) ∧ (DhS bd w5 w' [] (some ⟨nb, no, none⟩) nc ns D0 ∧ DB (j + 2) D0)) := by
      refine Calls.mono (ialong w5 wr.drew bd _ (some ⟨nb, no, none⟩) nc ns (segsD ns d1 p j) hx hy px py (j + 1) (by rw [HBD.out]; exact Nat.le_refl _) HNJ.out.1 HNJ.out.2 (Ints.nw HI.out N3.out) HNB.out (by omega) (by omega) HBJ.out h0d) ?_
      rintro e2 w' ⟨rfl, h1, h2⟩
      rw [e] at h1 h2
      exact ⟨rfl, DhS.sub h1 (fun k hk => absurd hk (by simp)), h2⟩
     obtain ⟨c0, _⟩ := CBL.out wr.drew (Nw.trans NJ.out nd)
     obtain ⟨a0, a1⟩ := DhS.at h0d (b := bh) (x := hx) (y := hy) (by simp)
     obtain ⟨p0, p1⟩ := CPT.out wr.drew (Nw.trans NJ.out nd) 0 (by omega)
     rw [HP0.out] at p0 p1
     simp only [Nat.zero_mul, Nat.add_zero] at p0 p1
     go_wp2
     refine reg_change (ops' := opsOf 16 Tryz.f6) (by kernel_rfl) ?_
     refine DS16.run ⟨w.heap.size, bh, bd, g, off, np, pc, hx, hy, px, py, fun w' => DhS bd w5 w' [] (some ⟨nb, no, none⟩) nc ns D0 ∧ DB (j + 2) D0, wr.drew, _⟩ ⟨c0, a0, a1, p0, p1, h00, HC.out, rfl, rfl, rfl, rfl⟩ wr rfl ?_
     rintro γ w12 h12
     have H12 : Hid (DhS bd w5 w12 [] (some ⟨nb, no, none⟩) nc ns D0) := h12.1
     have B12 : Hid (DB (j + 2) D0) := h12.2
     clear h12 c0 a0 a1 p0 p1 h0d nd
     simp only [Act.put, List.setIfInBounds_toArray, List.set_cons_zero, List.set_cons_succ]
     generalize γ 0 = z0 at *
     go_wp2_with fail
     refine Calls.mono (ilay w5 w12 bd [] (some ⟨nb, no, none⟩) nc ns D0 (by rw [HBD.out]; exact Nat.le_refl _) (by have := B12.out.ho; have := B12.out.hb; omega) H12.out) ?_
     rintro e w13 ⟨rfl, v, it, u, dh, ho, nw13, _⟩
     have HVV : Hid (dsV ns f p true = if 2400 < D0.begun ∨ 600 < manyL (layD D0).o then ([], false) else ((layD D0).o, true)) := by
      show _ = _
      rw [HV.out, HDA.out]
      rfl
     obtain ⟨la, lc, hv, hlines⟩ := OwnLn.lines dh.d.ln
     rw [ho] at hv hlines
     subst hv
     have c3 := dh.c3
     have c5 := dh.c5
     have hbg : (layD D0).begun = D0.begun := rfl
     rw [hbg] at c3
     have hml : manyL (layD D0).o ≤ 10000 := by
      have e := endL_many D0.o D0.p false
      have := B12.out.hm
      have := B12.out.hb
      have := B12.out.hp
      show manyL (endL D0.o D0.p false) ≤ _
      omega
     have hll : (layD D0).o.length ≤ 10000 := by
      have e := endL_len D0.o D0.p false
      have := B12.out.ho
      have := B12.out.hb
      show (endL D0.o D0.p false).length ≤ _
      omega
     have HMA : Hid _ := imany w13 la lc (layD D0).o (by omega) (by omega) hlines
     have O13 : Hid (LsOk w13 w.heap.size (.slice la (layD D0).o.length lc) (layD D0).o) := LsOk.of (OwnLn.base dh.d.ln (by have := Below.size N3.out; have := HBD.out; omega)) ho
     have N13 : Hid (Nw w w13) := Nw.trans N3.out nw13
     have C13 : Hid (bd < w13.heap.size) := dh.lt
     clear dh ho nw13 hlines
     generalize hbb : D0.begun = bb at *
     generalize (layD D0).o.length = ol at *
     by_cases h24 : 2400 < bb
     ·have hd : decide ((2400 : Int) < (bb : Int)) = true := by simp; omega
      have HE : Hid (dsV ns f p true = ([], false)) := by show _ = _; rw [HVV.out, if_pos (Or.inl h24)]
      go_wp2
      go_ret2
      rw [HE.out]
      exact ⟨_, rfl, LsOk.of (OwnLn.nil _ _) rfl, N13.out⟩
     ·have hd : decide ((2400 : Int) < (bb : Int)) = false := by simp; omega
      generalize hmm : manyL (layD D0).o = mm at *
      have HMM : Hid (manyL (layD D0).o = mm) := hmm
      clear hmm
      by_cases h6 : 600 < mm
      ·have hd2 : decide ((600 : Int) < (mm : Int)) = true := by simp; omega
       have HE : Hid (dsV ns f p true = ([], false)) := by show _ = _; rw [HVV.out, if_pos (Or.inr h6)]
       go_wp2_with fail
       refine Calls.mono HMA.out ?_
       rintro e w14 ⟨rfl, k14⟩
       have N14 : Hid (Nw w w14) := Nw.trans N13.out k14.nw
       clear k14
       go_wp2
       go_ret2
       rw [HE.out]
       exact ⟨_, rfl, LsOk.of (OwnLn.nil _ _) rfl, N14.out⟩
      ·have hd2 : decide ((600 : Int) < (mm : Int)) = false := by simp; omega
       have HE : Hid (dsV ns f p true = ((layD D0).o, true)) := by show _ = _; rw [HVV.out, if_neg (by omega)]
       go_wp2_with fail
       refine Calls.mono HMA.out ?_
       rintro e w14 ⟨rfl, k14⟩
       have N14 : Hid (Nw w w14) := Nw.trans N13.out k14.nw
       have O14 : Hid (LsOk w14 w.heap.size (.slice la ol lc) (layD D0).o) := LsOk.nw O13.out k14.nw
       have c5' := ((Kp.cells k14).1 _ _ C13.out).trans c5
       clear k14
       go_wp2
       go_ret2
       rw [HE.out]
       exact ⟨_, rfl, O14.out, N14.out⟩
theorem nears_all {p : List Pnt} (h : ∀ j, j < p.length → nearB (ptAt p j) = true) : nearsB p = true := by
 unfold nearsB
 exact all_true nearB (0, 0) p h
theorem nears_not {p : List Pnt} {j : Nat} (hj : j < p.length) (h : nearB (ptAt p j) = false) : nearsB p = false := by
 unfold nearsB
 exact all_false nearB (0, 0) p j hj h
theorem dsV_no {ns : List Int} {f : Int} {p : List Pnt} {cl : Bool} (h : dsIn ns f p = false) : dsV ns f p cl = ([], false) := by
 unfold dsV; rw [h]; rfl
theorem idashed (w : World) (pa : Option Addr) (pc : Nat) (p : List Pnt) (cl : Bool) (na : Option Addr) (nc : Nat) (ns : List Int) (f : Int) (hp : p.length ≤ 1048576) (hn : ns.length ≤ 1048576) (hcap : p.length ≤ pc) (hP : Pts w pa p) (hI : Ints w na ns) :
  Calls Tryz.prog 6 #[.agg #[.slice pa p.length pc, .bool cl], .slice na ns.length nc, .int .i64 f] w fun e w' => ∃ v, e = .returned (.tuple #[v, .bool (dsV ns f p cl).2]) ∧ LsOk w' w.heap.size v (dsV ns f p cl).1 ∧ Nw w w' := by
 cases hin : dsIn ns f p with
 | false =>
  rw [dsV_no hin]
  refine Calls.mono (idashA w pa pc p cl na nc ns f hp hn hP hI hin) ?_
  rintro e w' ⟨rfl, n1⟩
  exact ⟨_, rfl, LsOk.of (OwnLn.nil _ _) rfl, n1⟩
 | true =>
  by_cases hs : sumN ns ns.length = 0
  ·have e : dsV ns f p cl = ([⟨p, cl⟩], true) := by unfold dsV; rw [if_pos hin, if_pos hs]
   rw [e]
   exact idashB w pa pc p cl na nc ns f hp hn hP hI hin hs
  ·exact idashC w pa pc p cl na nc ns f hp hn hP hI hcap hin hs
def Kin (lo hi : Nat) (w w' : World) : Prop := w.heap.size ≤ w'.heap.size ∧ ∀ b, lo ≤ b → b < hi → w'.heap[b]? = w.heap[b]?
theorem Kin.refl (lo hi : Nat) (w : World) : Kin lo hi w w := ⟨Nat.le_refl _, fun _ _ _ => rfl⟩
theorem Kin.trans {lo hi : Nat} {a b c : World} (h : Kin lo hi a b) (k : Kin lo hi b c) : Kin lo hi a c := ⟨Nat.le_trans h.1 k.1, fun i h1 h2 => (k.2 i h1 h2).trans (h.2 i h1 h2)⟩
theorem Kin.nw {lo hi : Nat} {w w' : World} (k : Nw w w') (h : hi ≤ w.heap.size) : Kin lo hi w w' := ⟨Below.size k, fun b _ hb => Below.block k b (by omega)⟩
theorem Kin.ext {lo hi : Nat} {v v' : Value} {w w' : World} (k : Ext v v' w w') (h : hi ≤ w.heap.size) (hv : ∀ b, v.ownBlock = some b → b < lo ∨ hi ≤ b) : Kin lo hi w w' :=
 ⟨k.1.size, fun b h1 h2 => k.1.block b (by omega) (fun e => by have := hv b e.symm; omega)⟩
theorem Kin.set {lo hi : Nat} {w : World} {b o : Nat} (u : Value) (h : b < lo ∨ hi ≤ b) : Kin lo hi w (w.setCell ⟨b, o, none⟩ u) :=
 ⟨(set_grown (w := w) (b := b) (o := o) (u := u)).size, fun i h1 h2 => by
  rcases Nat.lt_or_ge i w.heap.size with hl | hl
  ·exact (set_grown (w := w) (b := b) (o := o) (u := u)).block i hl (fun e => by injection e with e; omega)
  ·rw [Array.getElem?_eq_none hl, Array.getElem?_eq_none (by simpa using hl)]⟩
theorem OwnQ.kin {T : TypeId} {w w' : World} {B hi : Nat} {v : Value} {l : List VV} (h : OwnQ T w B v l) (k : Kin B hi w w') (hh : w.heap.size ≤ hi) : OwnQ T w' B v l := by
 refine ⟨h.1, ?_⟩
 rcases h.2 with hn | ⟨g, cap, cur, h1, h2, h3, rest⟩
 ·exact Or.inl hn
 ·have hlt := (Array.getElem?_eq_some_iff.1 h3).1
  exact Or.inr ⟨g, cap, cur, h1, h2, by rw [k.2 g h2 (by omega)]; exact h3, rest⟩
theorem OwnLn.kin {w w' : World} {B hi : Nat} {v : Value} {it : Its} (h : OwnLn w B v it) (k : Kin B hi w w') (hh : w.heap.size ≤ hi) : OwnLn w' B v it :=
 ⟨OwnQ.kin h.own k hh, fun i hi => OwnQ.kin (h.pts i hi) k hh, h.far, h.apart⟩
end Go.Proofs.YtfdjjbgcaojcnaaGreat

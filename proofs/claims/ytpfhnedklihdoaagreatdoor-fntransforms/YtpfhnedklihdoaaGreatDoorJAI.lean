/-
  What the specification's l1Decimal answers: how far the number goes, and what it tells; for texts of at most 1048576 bytes.
  Texts that are not empty, texts with the same bytes; each theorem names its conditions.
  Texts held against a literal; each theorem names its conditions.
  Six numbers in a block; each theorem names its conditions.
-/
import Derived.Test.YtpfhnedklihdoaaGreatDoorJAE
import Derived.Test.YtpfhnedklihdoaaGreatDoorJAF
import Derived.Test.YtpfhnedklihdoaaGreatDoorJAG
import Derived.Test.YtpfhnedklihdoaaGreatDoorJAH
import Derived.Test.YtpfhnedklihdoaaGreatDoorJAA
import Derived.Test.YtpfhnedklihdoaaGreatDoorJAB
import Derived.Deep.DeepCutAuto
namespace Go.Proofs.YtpfhnedklihdoaaGreatDoor
open Go.ChangeShapes Go.WideShapes Go.ChangeAt Go.RowKit

/-- How far a number goes, behind its sign. -/
def kn (l : List UInt8) : Nat :=
  (l.takeWhile isD).length + (match l.dropWhile isD with
    | [] => 0
    | c :: b => if c = 46 ∧ (b.takeWhile isD).length ≠ 0 then 1 + (b.takeWhile isD).length else 0)
/-- How far a number goes. -/
def dk (l : List UInt8) : Nat := match l with
  | [] => 0
  | c :: t => if c = 45 ∨ c = 43 then 1 + kn t else kn (c :: t)
/-- What a reader of fixed numbers answers. -/
def rfS (l : List UInt8) : Int × Bool := match l with
  | [] => rf 1 []
  | c :: t => if c = 45 then rf (-1) t else if c = 43 then rf 1 t else rf 1 (c :: t)

theorem dk_cons (c : UInt8) (t : List UInt8) : dk (c :: t) = if c = 45 ∨ c = 43 then 1 + kn t else kn (c :: t) := rfl
theorem rfS_cons (c : UInt8) (t : List UInt8) : rfS (c :: t) = if c = 45 then rf (-1) t else if c = 43 then rf 1 t else rf 1 (c :: t) := rfl
theorem tw_all (a : List UInt8) (ha : allD a = true) : a.takeWhile isD = a := by
  induction a with
  | nil => rfl
  | cons x a ih =>
    unfold allD at ha
    simp only [List.all_cons, Bool.and_eq_true] at ha
    simp [ha.1, ih ha.2]
theorem kn_all (a : List UInt8) (ha : allD a = true) : kn a = a.length := by
  unfold kn; rw [dw_all a ha, tw_all a ha]; rfl
theorem kn_pt (a f u : List UInt8) (ha : allD a = true) (hf : allD f = true) (hf1 : 1 ≤ f.length) (hu : u = [] ∨ ∃ c b, u = c :: b ∧ isD c = false) : kn (a ++ 46 :: (f ++ u)) = a.length + 1 + f.length := by
  unfold kn
  rw [(dw_split a 46 (f ++ u) ha rfl).1, (dw_split a 46 (f ++ u) ha rfl).2]
  have e : (f ++ u).takeWhile isD = f := by
    rcases hu with rfl | ⟨c, b, rfl, hc⟩
    · rw [List.append_nil]; exact tw_all f hf
    · exact (dw_split f c b hf hc).2
  show a.length + (if (46 : UInt8) = 46 ∧ ((f ++ u).takeWhile isD).length ≠ 0 then 1 + ((f ++ u).takeWhile isD).length else 0) = _
  rw [e, if_pos ⟨rfl, by omega⟩]; omega
theorem kn_no (a : List UInt8) (c : UInt8) (b : List UInt8) (ha : allD a = true) (hc : isD c = false) (h : ¬ (c = 46 ∧ ∃ d b', b = d :: b' ∧ isD d = true)) : kn (a ++ c :: b) = a.length := by
  unfold kn
  rw [(dw_split a c b ha hc).1, (dw_split a c b ha hc).2]
  show a.length + (if c = 46 ∧ (b.takeWhile isD).length ≠ 0 then 1 + (b.takeWhile isD).length else 0) = _
  rw [if_neg]
  · rfl
  · rintro ⟨h1, h2⟩
    apply h
    refine ⟨h1, ?_⟩
    match b, h2 with
    | [], h2 => simp at h2
    | d :: b', h2 =>
      refine ⟨d, b', rfl, ?_⟩
      cases hd : isD d with
      | true => rfl
      | false => rw [List.takeWhile_cons, hd] at h2; simp at h2

/-- What l1Decimal answers of a number that goes k far and tells r. -/
def DV (k : Nat) (r : Int × Bool) (n x : Int) : Prop := r.2 = true ∧ n = k ∧ x = r.1 ∨ r.2 = false ∧ n = 0
theorem fin_snd (σ N : Int) : fin σ N = if okFix (fixOf σ N) = true then (fixOf σ N, true) else (0, false) := rfl

theorem says_a (s : ByteArray) (p : Nat) (σ : Int) (e : Nat) (pre a u : List UInt8) (hp : p = pre.length) (hl : s.data.toList = pre ++ (a ++ u)) (ha : allD a = true) (he : e = p + a.length) (n x : Int)
    (h : PE s p σ e a.length n x) : DV e (rf σ a) n x := by
  have e0 : a.length ≤ 8 → nk s p 9 e * p6 0 = num a * 1000000 := fun h8 => by rw [nk_num s pre a u hl p 9 e hp (by omega) (by omega)]; rfl
  rw [rf_all σ a ha]
  rcases h with ⟨hn, h⟩ | ⟨hv, h1, hn, hx⟩
  · refine Or.inr ⟨?_, hn⟩
    by_cases hv : 1 ≤ a.length ∧ a.length ≤ 8
    · have h1 := h hv
      rw [e0 hv.2] at h1
      rw [if_pos hv, fin_bad _ _ h1]
    · rw [if_neg hv]
  · rw [e0 hv.2] at h1 hx
    rw [if_pos hv, fin_ok _ _ h1]
    exact Or.inl ⟨rfl, hn, hx⟩
theorem says_f (s : ByteArray) (p : Nat) (σ : Int) (e1 e2 : Nat) (pre a f u : List UInt8) (hp : p = pre.length) (hl : s.data.toList = pre ++ (a ++ 46 :: (f ++ u))) (ha : allD a = true) (hf : allD f = true) (hf1 : 1 ≤ f.length) (he1 : e1 = p + a.length) (he2 : e2 = p + a.length + 1 + f.length) (n x : Int)
    (h : PF s p σ e1 e2 a.length f.length n x) : DV e2 (rf σ (a ++ 46 :: f)) n x := by
  have hl3 : s.data.toList = (pre ++ a ++ [46]) ++ (f ++ u) := by rw [hl]; simp
  have hq : e1 + 1 = (pre ++ a ++ [46]).length := by simp; omega
  have e0 : a.length ≤ 8 → f.length ≤ 6 → mm s (e1 + 1) (nk s p 9 e1) e2 * p6 f.length = num a * 1000000 + num f * 10 ^ (6 - f.length) := fun h8 h6 => by
    rw [mm_ten s _ e2 f.length _ (by omega) (by omega) h6, nk_num s pre a (46 :: (f ++ u)) hl p 9 e1 hp (by omega) (by omega), nk_num s _ f u hl3 (e1 + 1) 6 e2 hq (by omega) h6]
    rfl
  rw [rf_split σ a 46 f ha rfl]
  rcases h with ⟨hn, h⟩ | ⟨hv, h1, hn, hx⟩
  · refine Or.inr ⟨?_, hn⟩
    by_cases hv : 1 ≤ a.length + f.length ∧ a.length ≤ 8 ∧ f.length ≤ 6
    · have h1 := h hv
      rw [e0 hv.2.1 hv.2.2] at h1
      rw [if_pos ⟨rfl, hf, hf1, hv.2.2, hv.2.1⟩, fin_bad _ _ h1]
    · rw [if_neg (by omega)]
  · rw [e0 hv.2.1 hv.2.2] at h1 hx
    rw [if_pos ⟨rfl, hf, hf1, hv.2.2, hv.2.1⟩, fin_ok _ _ h1]
    exact Or.inl ⟨rfl, hn, hx⟩

theorem dec_all (s : ByteArray) (p : Nat) (σ : Int) (pre lr : List UInt8) (hp : p = pre.length) (hl : s.data.toList = pre ++ lr)
    (dA : ∀ (i : Nat) (w : World), i + p ≤ s.size → s.size ≤ i + p → Digs s p s.size → Dec s w (PE s p σ s.size i))
    (dB : ∀ (e1 i : Nat) (w : World), i + p ≤ e1 → e1 ≤ i + p → ∀ he : e1 < s.size, isD s[e1] = false → Digs s p e1 → (∀ h : e1 + 1 < s.size, (s[e1].toNat : Int) = 46 → isD s[e1 + 1] = false) → Dec s w (PE s p σ e1 i))
    (dC : ∀ (e1 i j : Nat) (w : World), i + p ≤ e1 → e1 ≤ i + p → ∀ he : e1 < s.size, isD s[e1] = false → Digs s p e1 → (s[e1].toNat : Int) = 46 → e1 + 1 < s.size → j + (e1 + 1) ≤ s.size → s.size ≤ j + (e1 + 1) → Digs s (e1 + 1) s.size → Dec s w (PF s p σ e1 s.size i j))
    (dD : ∀ (e1 e2 i j : Nat) (w : World), i + p ≤ e1 → e1 ≤ i + p → ∀ he : e1 < s.size, isD s[e1] = false → Digs s p e1 → (s[e1].toNat : Int) = 46 → e1 + 1 < e2 → j + (e1 + 1) ≤ e2 → e2 ≤ j + (e1 + 1) → Digs s (e1 + 1) e2 → ∀ he3 : e2 < s.size, isD s[e2] = false → Dec s w (PF s p σ e1 e2 i j))
    (w : World) : Dec s w (DV (p + kn lr) (rf σ (lr.take (kn lr)))) := by
  obtain ⟨a, t, hat, ha, ht⟩ := parts lr
  subst hat
  have hsz := size_of s _ hl
  rw [List.length_append, List.length_append] at hsz
  rcases ht with rfl | ⟨c, b, rfl, hc⟩
  · rw [List.length_nil] at hsz
    rw [List.append_nil, kn_all a ha, List.take_length]
    exact (dA a.length w (by omega) (by omega) (digs_of s pre a [] hl ha p s.size hp (by omega))).mono fun n x h => by
      have := says_a s p σ s.size pre a [] hp hl ha (by omega) n x h
      rw [show s.size = p + a.length by omega] at this
      exact this
  · have hsz2 : s.size = p + a.length + (b.length + 1) := by rw [hsz, List.length_cons, hp]; omega
    have hl2 : s.data.toList = (pre ++ a) ++ c :: b := by rw [hl, List.append_assoc]
    have he : p + a.length < s.size := by omega
    have g1 : s[p + a.length] = c := get_of s (pre ++ a) c b hl2 _ (by rw [List.length_append, hp]) he
    have hd1 := digs_of s pre a (c :: b) hl ha p (p + a.length) hp (by omega)
    by_cases hC : c = 46 ∧ ∃ d b', b = d :: b' ∧ isD d = true
    · obtain ⟨rfl, d, b', hb, hdd⟩ := hC
      obtain ⟨f, u, hfu, hf, hu⟩ := parts b
      have hf1 : 1 ≤ f.length := by
        match f, hfu with
        | [], hfu =>
          rcases hu with rfl | ⟨c2, b2, rfl, hc2⟩
          · rw [hb] at hfu; simp at hfu
          · rw [hb] at hfu; simp at hfu; rw [hfu.1, hc2] at hdd; cases hdd
        | _ :: _, _ => simp
      have hbl : b.length = f.length + u.length := by rw [hfu, List.length_append]
      clear hb
      subst hfu
      have hl3 : s.data.toList = (pre ++ a ++ [46]) ++ (f ++ u) := by rw [hl2]; simp
      have hq : p + a.length + 1 = (pre ++ a ++ [46]).length := by simp; omega
      rw [kn_pt a f u ha hf hf1 hu]
      have ht : (a ++ 46 :: (f ++ u)).take (a.length + 1 + f.length) = a ++ 46 :: f := by
        rw [show a ++ 46 :: (f ++ u) = (a ++ 46 :: f) ++ u by simp, show a.length + 1 + f.length = (a ++ 46 :: f).length by simp; omega, List.take_left]
      rw [ht, show p + (a.length + 1 + f.length) = p + a.length + 1 + f.length by omega]
      rcases hu with rfl | ⟨c2, b2, rfl, hc2⟩
      · rw [List.length_nil] at hbl
        refine (dC (p + a.length) a.length f.length w (by omega) (by omega) he (by rw [g1]; exact hc) hd1 (by rw [g1]; rfl) (by omega) (by omega) (by omega) (digs_of s _ f [] hl3 hf (p + a.length + 1) s.size hq (by omega))).mono fun n x h => ?_
        have := says_f s p σ (p + a.length) s.size pre a f [] hp hl ha hf hf1 rfl (by omega) n x h
        rw [show s.size = p + a.length + 1 + f.length by omega] at this
        exact this
      · rw [List.length_cons] at hbl
        have hl4 : s.data.toList = (pre ++ a ++ [46] ++ f) ++ c2 :: b2 := by rw [hl3]; simp
        have he2 : p + a.length + 1 + f.length < s.size := by omega
        have g2 : s[p + a.length + 1 + f.length] = c2 := get_of s _ c2 b2 hl4 _ (by simp; omega) he2
        refine (dD (p + a.length) (p + a.length + 1 + f.length) a.length f.length w (by omega) (by omega) he (by rw [g1]; exact hc) hd1 (by rw [g1]; rfl) (by omega) (by omega) (by omega) (digs_of s _ f (c2 :: b2) hl3 hf (p + a.length + 1) _ hq (by omega)) he2 (by rw [g2]; exact hc2)).mono fun n x h => ?_
        exact says_f s p σ (p + a.length) _ pre a f (c2 :: b2) hp hl ha hf hf1 rfl rfl n x h
    · rw [kn_no a c b ha hc hC, List.take_left]
      refine (dB (p + a.length) a.length w (by omega) (by omega) he (by rw [g1]; exact hc) hd1 (fun h h46 => ?_)).mono fun n x h => ?_
      · rw [g1] at h46
        have hc46 : c = 46 := by
          apply UInt8.toNat_inj.1
          have : ((46 : UInt8).toNat : Int) = 46 := rfl
          omega
        match b, hl2 with
        | [], _ => simp at hsz2; omega
        | d :: b', hl2 =>
          have g3 : s[p + a.length + 1] = d := get_of s (pre ++ a ++ [c]) d b' (by rw [hl2]; simp) _ (by simp; omega) h
          rw [g3]
          cases hdd : isD d with
          | false => rfl
          | true => exact absurd ⟨hc46, d, b', rfl, hdd⟩ hC
      · exact says_a s p σ _ pre a (c :: b) hp hl ha rfl n x h

/-- What l1Decimal answers at any text. -/
def DecSays (s : ByteArray) : Prop := ∀ w, Calls Tryz.prog 40 #[.string s] w fun e w' => ∃ n x : Int, e = .returned (.tuple #[.int .i64 n, .int .i64 x]) ∧ w' = w ∧ DV (dk s.data.toList) (rfS (s.data.toList.take (dk s.data.toList))) n x

theorem dec_x (s : ByteArray) (hs : s.size ≤ 1048576) : DecSays s := by
  intro w
  match hl : s.data.toList with
  | [] =>
    have h0 : s.size = 0 := size_of s [] hl
    have hc : ∀ h : 0 < s.size, (s[0].toNat : Int) ≠ 45 ∧ (s[0].toNat : Int) ≠ 43 := fun h => absurd h (by omega)
    exact dec_all s 0 1 [] [] rfl (by simpa using hl) (fun i w i1 i2 hd => dec_na s i w hs hc i1 i2 hd) (fun e1 i w i1 i2 he hn hd hx => dec_nb s e1 i w hs hc i1 i2 he hn hd hx)
      (fun e1 i j w i1 i2 he hn hd h46 he2 j1 j2 hd2 => dec_nc1 s e1 i j w hs hc i1 i2 he hn hd h46 he2 j1 j2 hd2) (fun e1 e2 i j w i1 i2 he hn hd h46 he2 j1 j2 hd2 he3 hn2 => dec_nc2 s e1 e2 i j w hs hc i1 i2 he hn hd h46 he2 j1 j2 hd2 he3 hn2) w
  | c :: l =>
    have hsz := size_of s _ hl
    rw [List.length_cons] at hsz
    have h0 : 0 < s.size := by omega
    have g0 : s[0] = c := get_of s [] c l hl 0 rfl h0
    by_cases h45 : c = 45
    · have hc : (s[0].toNat : Int) = 45 := by rw [g0, h45]; rfl
      have e1 : dk (c :: l) = 1 + kn l := by rw [dk_cons, if_pos (Or.inl h45)]
      have e2 : rfS ((c :: l).take (1 + kn l)) = rf (-1) (l.take (kn l)) := by rw [Nat.add_comm, List.take_succ_cons]; rw [rfS_cons]; simp [h45]
      rw [e1, e2]
      exact dec_all s 1 (-1) [c] l rfl hl (fun i w i1 i2 hd => dec_ma s i w hs h0 hc i1 i2 hd) (fun e1 i w i1 i2 he hn hd hx => dec_mb s e1 i w hs h0 hc i1 i2 he hn hd hx)
        (fun e1 i j w i1 i2 he hn hd h46 he2 j1 j2 hd2 => dec_mc1 s e1 i j w hs h0 hc i1 i2 he hn hd h46 he2 j1 j2 hd2) (fun e1 e2 i j w i1 i2 he hn hd h46 he2 j1 j2 hd2 he3 hn2 => dec_mc2 s e1 e2 i j w hs h0 hc i1 i2 he hn hd h46 he2 j1 j2 hd2 he3 hn2) w
    by_cases h43 : c = 43
    · have hc : (s[0].toNat : Int) = 43 := by rw [g0, h43]; rfl
      have e1 : dk (c :: l) = 1 + kn l := by rw [dk_cons, if_pos (Or.inr h43)]
      have e2 : rfS ((c :: l).take (1 + kn l)) = rf 1 (l.take (kn l)) := by rw [Nat.add_comm, List.take_succ_cons]; rw [rfS_cons]; simp [h43]
      rw [e1, e2]
      exact dec_all s 1 1 [c] l rfl hl (fun i w i1 i2 hd => dec_pa s i w hs h0 hc i1 i2 hd) (fun e1 i w i1 i2 he hn hd hx => dec_pb s e1 i w hs h0 hc i1 i2 he hn hd hx)
        (fun e1 i j w i1 i2 he hn hd h46 he2 j1 j2 hd2 => dec_pc1 s e1 i j w hs h0 hc i1 i2 he hn hd h46 he2 j1 j2 hd2) (fun e1 e2 i j w i1 i2 he hn hd h46 he2 j1 j2 hd2 he3 hn2 => dec_pc2 s e1 e2 i j w hs h0 hc i1 i2 he hn hd h46 he2 j1 j2 hd2 he3 hn2) w
    · have hc : ∀ h : 0 < s.size, (s[0].toNat : Int) ≠ 45 ∧ (s[0].toNat : Int) ≠ 43 := fun h => by
        rw [g0]
        refine ⟨fun e => h45 ?_, fun e => h43 ?_⟩
        · apply UInt8.toNat_inj.1; have : ((45 : UInt8).toNat : Int) = 45 := rfl; omega
        · apply UInt8.toNat_inj.1; have : ((43 : UInt8).toNat : Int) = 43 := rfl; omega
      have e1 : dk (c :: l) = 0 + kn (c :: l) := by rw [dk_cons, if_neg (by rintro (h | h); exact h45 h; exact h43 h)]; omega
      have e2 : rfS ((c :: l).take (0 + kn (c :: l))) = rf 1 ((c :: l).take (kn (c :: l))) := by
        rw [Nat.zero_add]
        cases kn (c :: l) with
        | zero => rfl
        | succ k => rw [List.take_succ_cons]; rw [rfS_cons]; simp [h45, h43]
      rw [e1, e2]
      exact dec_all s 0 1 [] (c :: l) rfl hl (fun i w i1 i2 hd => dec_na s i w hs hc i1 i2 hd) (fun e1 i w i1 i2 he hn hd hx => dec_nb s e1 i w hs hc i1 i2 he hn hd hx)
        (fun e1 i j w i1 i2 he hn hd h46 he2 j1 j2 hd2 => dec_nc1 s e1 i j w hs hc i1 i2 he hn hd h46 he2 j1 j2 hd2) (fun e1 e2 i j w i1 i2 he hn hd h46 he2 j1 j2 hd2 he3 hn2 => dec_nc2 s e1 e2 i j w hs hc i1 i2 he hn hd h46 he2 j1 j2 hd2 he3 hn2) w

/-- The program's ReadFixed at any text. -/
def ReadSays (s : ByteArray) : Prop := ∀ w, Calls Tryz.prog 37 #[.string s] w fun e w' => e = .returned (.tuple #[.int .i64 (rfS s.data.toList).1, .bool (rfS s.data.toList).2]) ∧ Kp w w'
theorem iread_x (s : ByteArray) (hs : s.size ≤ 1048576) : ReadSays s := by
  intro w
  match hl : s.data.toList with
  | [] =>
    have h := read_any s s 1 (Or.inl rfl) w (fun w => sign_none s w hs (by rw [hl]; simp) (by rw [hl]; simp)) hs
    rw [hl] at h; exact h
  | c :: l =>
    have hsz := size_of s _ hl
    rw [List.length_cons] at hsz
    have h0 : 0 < s.size := by omega
    have eR : (s.extract 1 s.size).data.toList = l := by rw [Lib.extract_to_end, hl]; rfl
    have sR : (s.extract 1 s.size).size ≤ 1048576 := by rw [size_of _ _ eR]; omega
    by_cases h45 : c = 45
    · have h := read_any s (s.extract 1 s.size) (-1) (Or.inr rfl) w (fun w => sign_minus s w hs h0 (by rw [hl, h45]; rfl)) sR
      rw [eR] at h
      have e : rfS (c :: l) = rf (-1) l := by rw [rfS_cons]; simp [h45]
      rw [e]; exact h
    by_cases h43 : c = 43
    · have h := read_any s (s.extract 1 s.size) 1 (Or.inl rfl) w (fun w => sign_plus s w hs h0 (by rw [hl, h43]; rfl)) sR
      rw [eR] at h
      have e : rfS (c :: l) = rf 1 l := by rw [rfS_cons]; simp [h43]
      rw [e]; exact h
    · have h := read_any s s 1 (Or.inl rfl) w (fun w => sign_none s w hs (by rw [hl]; simp [h45]) (by rw [hl]; simp [h43])) hs
      rw [hl] at h
      have e : rfS (c :: l) = rf 1 (c :: l) := by rw [rfS_cons]; simp [h45, h43]
      rw [e]; exact h
theorem dk_le (l : List UInt8) : dk l ≤ l.length := by
  have tw : ∀ l : List UInt8, (l.takeWhile isD).length + (l.dropWhile isD).length = l.length := fun l => by rw [← List.length_append, List.takeWhile_append_dropWhile]
  have k : ∀ l : List UInt8, kn l ≤ l.length := fun l => by
    unfold kn
    have h := tw l
    match hd : l.dropWhile isD with
    | [] => simp only; omega
    | c :: b =>
      rw [hd, List.length_cons] at h
      have h2 := tw b
      show (l.takeWhile isD).length + (if c = 46 ∧ (b.takeWhile isD).length ≠ 0 then 1 + (b.takeWhile isD).length else 0) ≤ _
      by_cases hc : c = 46 ∧ (b.takeWhile isD).length ≠ 0
      · rw [if_pos hc]; omega
      · rw [if_neg hc]; omega
  match l with
  | [] => exact Nat.le_refl _
  | c :: t =>
    rw [dk_cons]
    have h1 := k t
    have h2 := k (c :: t)
    rw [List.length_cons] at h2 ⊢
    by_cases hc : c = 45 ∨ c = 43
    · rw [if_pos hc]; omega
    · rw [if_neg hc]; exact h2
theorem rf_short (σ : Int) (l : List UInt8) (h : kn l < l.length) : rf σ l = (0, false) := by
  obtain ⟨a, t, rfl, ha, ht⟩ := parts l
  rcases ht with rfl | ⟨c, b, rfl, hc⟩
  · rw [List.append_nil, kn_all a ha] at h; omega
  · rw [rf_split σ a c b ha hc, if_neg]
    rintro ⟨rfl, hb, h1, -, -⟩
    have e := kn_pt a b [] ha hb h1 (Or.inl rfl)
    rw [List.append_nil] at e
    rw [e] at h
    simp at h; omega
theorem rf_false (σ : Int) (l : List UInt8) (h : (rf σ l).2 = false) : rf σ l = (0, false) := by
  have f : ∀ N, (fin σ N).2 = false → fin σ N = (0, false) := fun N hN => by
    unfold fin at hN ⊢
    split at hN
    · simp at hN
    · rename_i hh; rw [if_neg hh]
  obtain ⟨a, t, rfl, ha, ht⟩ := parts l
  rcases ht with rfl | ⟨c, b, rfl, hc⟩
  · rw [List.append_nil, rf_all σ a ha] at h ⊢
    split at h
    · rename_i hh; rw [if_pos hh]; exact f _ h
    · rename_i hh; rw [if_neg hh]
  · rw [rf_split σ a c b ha hc] at h ⊢
    split at h
    · rename_i hh; rw [if_pos hh]; exact f _ h
    · rename_i hh; rw [if_neg hh]
theorem rfS_short (l : List UInt8) (h : dk l < l.length) : rfS l = (0, false) := by
  match l, h with
  | c :: t, h =>
    rw [dk_cons, List.length_cons] at h
    rw [rfS_cons]
    by_cases h45 : c = 45
    · rw [if_pos (Or.inl h45)] at h
      simp only [h45, if_true]
      exact rf_short _ _ (by omega)
    · by_cases h43 : c = 43
      · rw [if_pos (Or.inr h43)] at h
        simp only [h43]
        exact rf_short _ _ (by omega)
      · rw [if_neg (by rintro (e | e); exact h45 e; exact h43 e)] at h
        simp only [h45, h43, if_false]
        exact rf_short _ _ (by rw [List.length_cons]; exact h)
theorem rfS_false (l : List UInt8) (h : (rfS l).2 = false) : rfS l = (0, false) := by
  match l, h with
  | [], h => exact rf_false _ _ h
  | c :: t, h =>
    rw [rfS_cons] at h ⊢
    by_cases h45 : c = 45
    · simp only [h45, if_true] at h ⊢; exact rf_false _ _ h
    · by_cases h43 : c = 43
      · simp only [h43, if_true] at h ⊢; exact rf_false _ _ h
      · simp only [h45, h43, if_false] at h ⊢; exact rf_false _ _ h
theorem res_x (l : List UInt8) (n x : Int) (h : DV (dk l) (rfS (l.take (dk l))) n x) : resOf n x l.length = rfS l := by
  by_cases hk : dk l < l.length
  · rw [rfS_short l hk]
    unfold resOf
    rw [if_pos]
    rcases h with ⟨_, hn, _⟩ | ⟨_, hn⟩ <;> omega
  · have e : dk l = l.length := by have := dk_le l; omega
    rw [e, List.take_length] at h
    rcases h with ⟨h2, hn, hx⟩ | ⟨h2, hn⟩
    · unfold resOf
      by_cases h0 : n = 0
      · have : l = [] := List.eq_nil_of_length_eq_zero (by omega)
        subst this
        exact absurd h2 (by decide)
      · rw [if_neg (by omega), hx]
        exact Prod.ext rfl h2.symm
    · unfold resOf
      rw [if_pos (Or.inl hn), rfS_false l h2]
end Go.Proofs.YtpfhnedklihdoaaGreatDoor
namespace Go.Proofs.YtpfhnedklihdoaaGreatDoor
open Go.ChangeShapes Go.WideShapes Go.ChangeAt Go.RowKit
set_option linter.unusedVariables false

theorem empn (u : ByteArray) (h : u ≠ ⟨#[]⟩) : u.toList.isEmpty = false ∧ ¬ u.toList = [] := by
  have hs : u.size ≠ 0 := fun e => h (ByteArray.ext (Array.eq_empty_of_size_eq_zero e))
  have h1 := empty_no u (by omega)
  exact ⟨h1, fun e => by rw [e] at h1; cases h1⟩
theorem ba_eq {x y : ByteArray} (h : x.data.toList = y.data.toList) : x = y := by
  rw [← Lib.mk_data x, ← Lib.mk_data y, h]
end Go.Proofs.YtpfhnedklihdoaaGreatDoor
namespace Go.Proofs.YtpfhnedklihdoaaGreatDoor
open Go.ChangeShapes Go.WideShapes Go.ChangeAt Go.RowKit
set_option linter.unusedVariables false

theorem beqn (u : ByteArray) (l : List UInt8) (h : u ≠ ⟨l.toArray⟩) : (u.toList == l) = false := by
  rw [Lib.toList_data, beq_eq_false_iff_ne]
  intro e
  exact h (ba_eq (by rw [e]))
theorem beqy (u : ByteArray) (l : List UInt8) (h : u = ⟨l.toArray⟩) : (u.toList == l) = true := by
  rw [Lib.toList_data, h]
  simp
end Go.Proofs.YtpfhnedklihdoaaGreatDoor
namespace Go.Proofs.YtpfhnedklihdoaaGreatDoor
open Go.ChangeShapes Go.WideShapes Go.ChangeAt Go.RowKit
set_option linter.unusedVariables false

def Six (w : World) (b : Nat) (x : Nat → Int) : Prop := (∀ j, j < 6 → w.cell? ⟨b, j, none⟩ = some (.int .i64 (x j))) ∧ ∀ o, w.frozen? ⟨b, o, none⟩ = false
def SixE (w : World) (b : Nat) : Prop := ∃ x, Six w b x
theorem Six.lt {w : World} {b : Nat} {x : Nat → Int} (h : Six w b x) : b < w.heap.size := World.block_lt_of_cell? w ⟨b, 0, none⟩ (h.1 0 (by omega))
theorem Six.nw {w w' : World} {b : Nat} {x : Nat → Int} (h : Six w b x) (k : Nw w w') : Six w' b x :=
  ⟨fun j hj => ((bcell k).1 _ _ h.lt).trans (h.1 j hj), fun o => ((bcell k).2 _ _ h.lt).trans (h.2 o)⟩
theorem SixE.lt {w : World} {b : Nat} (h : SixE w b) : b < w.heap.size := by obtain ⟨x, hx⟩ := h; exact hx.lt
theorem SixE.nw {w w' : World} {b : Nat} (h : SixE w b) (k : Nw w w') : SixE w' b := by obtain ⟨x, hx⟩ := h; exact ⟨x, hx.nw k⟩
theorem SixE.set {w : World} {b : Nat} (h : SixE w b) (j : Nat) (v : Int) (hj : j < 6) : SixE (w.setCell ⟨b, j, none⟩ (.int .i64 v)) b := by
  obtain ⟨x, hx⟩ := h
  refine ⟨fun i => if i = j then v else x i, fun i hi => ?_, fun o => by rw [World.frozen?_setCell]; exact hx.2 o⟩
  show _ = some (Value.int .i64 (if i = j then v else x i))
  by_cases e : i = j
  · subst e
    rw [if_pos rfl]
    exact World.cell?_setCell_same w ⟨b, i, none⟩ _ (hx.1 i hi)
  · rw [if_neg e, World.cell?_setCell_other _ _ _ _ (fun h => by injection h; omega)]
    exact hx.1 i hi
theorem SixE.off {w : World} {b b2 : Nat} (h : SixE w b) (o : Nat) (v : Value) (hne : b ≠ b2) : SixE (w.setCell ⟨b2, o, none⟩ v) b := by
  obtain ⟨x, hx⟩ := h
  exact ⟨x, fun i hi => (World.cell?_setCell_other _ _ _ _ (fun e => by injection e; omega)).trans (hx.1 i hi), fun i => by rw [World.frozen?_setCell]; exact hx.2 i⟩
theorem Six.new (w : World) (a b c d e f : Int) (t : TypeId) : SixE (w.alloc (.cells #[.int .i64 a, .int .i64 b, .int .i64 c, .int .i64 d, .int .i64 e, .int .i64 f] t)) w.heap.size := by
  refine ⟨fun j => if j = 0 then a else if j = 1 then b else if j = 2 then c else if j = 3 then d else if j = 4 then e else f, fun j hj => ?_, fun o => World.frozen?_alloc_at _ _ _ _ rfl⟩
  rcases (show j = 0 ∨ j = 1 ∨ j = 2 ∨ j = 3 ∨ j = 4 ∨ j = 5 by omega) with rfl | rfl | rfl | rfl | rfl | rfl <;> simp
theorem SixE.get {w : World} {b : Nat} (h : SixE w b) : ∃ a0 a1 a2 a3 a4 a5 : Int, w.cell? ⟨b, 0, none⟩ = some (.int .i64 a0) ∧ w.cell? ⟨b, 1, none⟩ = some (.int .i64 a1) ∧ w.cell? ⟨b, 2, none⟩ = some (.int .i64 a2) ∧ w.cell? ⟨b, 3, none⟩ = some (.int .i64 a3) ∧ w.cell? ⟨b, 4, none⟩ = some (.int .i64 a4) ∧ w.cell? ⟨b, 5, none⟩ = some (.int .i64 a5) ∧ ∀ o, w.frozen? ⟨b, o, none⟩ = false := by
  obtain ⟨x, hx, hf⟩ := h
  exact ⟨_, _, _, _, _, _, hx 0 (by omega), hx 1 (by omega), hx 2 (by omega), hx 3 (by omega), hx 4 (by omega), hx 5 (by omega), hf⟩
/-- A block of six numbers that is written whole. -/
theorem SixE.all {w : World} {b : Nat} (h : SixE w b) (a0 a1 a2 a3 a4 a5 : Int) : SixE ((((((w.setCell ⟨b, 0, none⟩ (.int .i64 a0)).setCell ⟨b, 1, none⟩ (.int .i64 a1)).setCell ⟨b, 2, none⟩ (.int .i64 a2)).setCell ⟨b, 3, none⟩ (.int .i64 a3)).setCell ⟨b, 4, none⟩ (.int .i64 a4)).setCell ⟨b, 5, none⟩ (.int .i64 a5)) b :=
  (((((h.set 0 a0 (by omega)).set 1 a1 (by omega)).set 2 a2 (by omega)).set 3 a3 (by omega)).set 4 a4 (by omega)).set 5 a5 (by omega)
theorem SixE.offAll {w : World} {b b2 : Nat} (h : SixE w b) (hne : b ≠ b2) (v0 v1 v2 v3 v4 v5 : Value) : SixE ((((((w.setCell ⟨b2, 0, none⟩ v0).setCell ⟨b2, 1, none⟩ v1).setCell ⟨b2, 2, none⟩ v2).setCell ⟨b2, 3, none⟩ v3).setCell ⟨b2, 4, none⟩ v4).setCell ⟨b2, 5, none⟩ v5) b :=
  (((((h.off _ _ hne).off _ _ hne).off _ _ hne).off _ _ hne).off _ _ hne).off _ _ hne
theorem nw_six {w wx : World} {b : Nat} (h : Nw w wx) (hb : w.heap.size ≤ b) (v0 v1 v2 v3 v4 v5 : Value) : Nw w ((((((wx.setCell ⟨b, 0, none⟩ v0).setCell ⟨b, 1, none⟩ v1).setCell ⟨b, 2, none⟩ v2).setCell ⟨b, 3, none⟩ v3).setCell ⟨b, 4, none⟩ v4).setCell ⟨b, 5, none⟩ v5) :=
  ((((((Below.setCell h hb _).setCell hb _).setCell hb _).setCell hb _).setCell hb _).setCell hb _)
theorem sset6 (w : World) (b : Nat) (v0 v1 v2 v3 v4 v5 : Value) {u0 u1 u2 u3 u4 u5 : Value} (h0 : w.cell? ⟨b, 0, none⟩ = some u0) (h1 : w.cell? ⟨b, 1, none⟩ = some u1) (h2 : w.cell? ⟨b, 2, none⟩ = some u2) (h3 : w.cell? ⟨b, 3, none⟩ = some u3) (h4 : w.cell? ⟨b, 4, none⟩ = some u4) (h5 : w.cell? ⟨b, 5, none⟩ = some u5) :
    let W := (((((w.setCell ⟨b, 0, none⟩ v0).setCell ⟨b, 1, none⟩ v1).setCell ⟨b, 2, none⟩ v2).setCell ⟨b, 3, none⟩ v3).setCell ⟨b, 4, none⟩ v4).setCell ⟨b, 5, none⟩ v5
    W.cell? ⟨b, 0, none⟩ = some v0 ∧ W.cell? ⟨b, 1, none⟩ = some v1 ∧ W.cell? ⟨b, 2, none⟩ = some v2 ∧ W.cell? ⟨b, 3, none⟩ = some v3 ∧ W.cell? ⟨b, 4, none⟩ = some v4 ∧ W.cell? ⟨b, 5, none⟩ = some v5 := by
  have far : ∀ (w : World) (o o' : Nat) (u : Value), o ≠ o' → (w.setCell ⟨b, o, none⟩ u).cell? ⟨b, o', none⟩ = w.cell? ⟨b, o', none⟩ := fun w o o' u h => World.cell?_setCell_other _ _ _ _ (fun e => by injection e; omega)
  refine ⟨?_, ?_, ?_, ?_, ?_, ?_⟩
  · rw [far _ 5 0 _ (by omega), far _ 4 0 _ (by omega), far _ 3 0 _ (by omega), far _ 2 0 _ (by omega), far _ 1 0 _ (by omega)]
    exact World.cell?_setCell_same w ⟨b, 0, none⟩ _ h0
  · rw [far _ 5 1 _ (by omega), far _ 4 1 _ (by omega), far _ 3 1 _ (by omega), far _ 2 1 _ (by omega)]
    exact World.cell?_setCell_same _ ⟨b, 1, none⟩ _ ((far _ 0 1 _ (by omega)).trans h1)
  · rw [far _ 5 2 _ (by omega), far _ 4 2 _ (by omega), far _ 3 2 _ (by omega)]
    exact World.cell?_setCell_same _ ⟨b, 2, none⟩ _ ((far _ 1 2 _ (by omega)).trans ((far _ 0 2 _ (by omega)).trans h2))
  · rw [far _ 5 3 _ (by omega), far _ 4 3 _ (by omega)]
    exact World.cell?_setCell_same _ ⟨b, 3, none⟩ _ ((far _ 2 3 _ (by omega)).trans ((far _ 1 3 _ (by omega)).trans ((far _ 0 3 _ (by omega)).trans h3)))
  · rw [far _ 5 4 _ (by omega)]
    exact World.cell?_setCell_same _ ⟨b, 4, none⟩ _ ((far _ 3 4 _ (by omega)).trans ((far _ 2 4 _ (by omega)).trans ((far _ 1 4 _ (by omega)).trans ((far _ 0 4 _ (by omega)).trans h4))))
  · exact World.cell?_setCell_same _ ⟨b, 5, none⟩ _ ((far _ 4 5 _ (by omega)).trans ((far _ 3 5 _ (by omega)).trans ((far _ 2 5 _ (by omega)).trans ((far _ 1 5 _ (by omega)).trans ((far _ 0 5 _ (by omega)).trans h5)))))
theorem ssame (w : World) : Calls Tryz.prog 69 #[] w fun e w' => e = .returned (.agg #[.int .i64 65536, .int .i64 0, .int .i64 0, .int .i64 65536, .int .i64 0, .int .i64 0]) ∧ Nw w w' := by
  go_enter Tryz.func69, Tryz.ntmps69
  go_wp2
  refine bodyPost_ret (v := .agg #[.int .i64 65536, .int .i64 0, .int .i64 0, .int .i64 65536, .int .i64 0, .int .i64 0]) (by simp [results, Tryz.results69, go_sem]) rfl ⟨rfl, ?_⟩
  exact (Below.refl _ _).alloc (Nat.le_refl _) _
end Go.Proofs.YtpfhnedklihdoaaGreatDoor

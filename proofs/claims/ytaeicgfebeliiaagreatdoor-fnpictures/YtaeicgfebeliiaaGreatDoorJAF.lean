/-
  Bits that were laid one by one are read again: the bits of bytes; each theorem names its conditions.
  How a symbol is found by its code, on numbers; each theorem names its conditions.
  Numbers of whole bytes, the bits of a block of the fixed codes by their steps, what is repeated: pure facts; each theorem names its conditions.
  Lists of bytes that lie in a block of their own, and what leaves them as they are; each theorem names its conditions.
-/
import Derived.Test.YtaeicgfebeliiaaGreatDoorJAA
import Derived.Test.YtaeicgfebeliiaaGreatDoorJAE
import Derived.ShutString
import Derived.ChangeOld
namespace Go.Proofs.YtaeicgfebeliiaaGreatDoor
open Go.ChangeShapes Go.WideShapes Go.ChangeAt Go.RowKit
set_option linter.unusedVariables false

/-- The bit i of some bytes, the lowest bit of a byte first. -/
def btA (bs : List Nat) (i : Nat) : Nat := bs.getD (i / 8) 0 / 2 ^ (i % 8) % 2
theorem btA_le (bs : List Nat) (i : Nat) : btA bs i ≤ 1 := by unfold btA; omega
theorem upL {l r : List Nat} {i : Nat} (h : i < l.length) : (l ++ r).getD i 0 = l.getD i 0 := by simp [List.getD_eq_getElem?_getD, List.getElem?_append_left h]
theorem upR (l : List Nat) (a : Nat) : (l ++ [a]).getD l.length 0 = a := by simp [List.getD_eq_getElem?_getD]
/-- What bytes must be that were laid bit by bit. -/
structure Bts (s : List Nat × Nat) (xs : List Nat) : Prop where
  fine : Fine s
  len : s.1.length = (xs.length + 7) / 8
  used : s.2 = xs.length % 8
  bit : ∀ i, i < xs.length → btA s.1 i = xs.getD i 0
theorem bit_last (a x u : Nat) (ha : a < 2 ^ u) (hx : x ≤ 1) : (a + x * 2 ^ u) / 2 ^ u % 2 = x := by
  rw [Nat.add_mul_div_right _ _ (Nat.pow_pos (by omega)), Nat.div_eq_of_lt ha]; omega
theorem bit_ahead (a x u j : Nat) (hj : j < u) : (a + x * 2 ^ u) / 2 ^ j % 2 = a / 2 ^ j % 2 := by
  obtain ⟨d, rfl⟩ : ∃ d, u = j + 1 + d := ⟨u - (j + 1), by omega⟩
  have e : x * 2 ^ (j + 1 + d) = (x * 2 ^ d * 2) * 2 ^ j := by
    rw [Nat.pow_add, Nat.pow_succ]; simp only [Nat.mul_comm, Nat.mul_left_comm, Nat.mul_assoc]
  rw [e, Nat.add_mul_div_right _ _ (Nat.pow_pos (by omega))]
  omega
theorem Bts.step {s : List Nat × Nat} {xs : List Nat} (h : Bts s xs) (x : Nat) (hx : x ≤ 1) : Bts (stp s x) (xs ++ [x]) := by
  have hf := fine_step s x h.fine hx
  obtain ⟨bs, u⟩ := s
  obtain ⟨⟨h1, h2, h3⟩, hl, hu, hb⟩ := h
  dsimp only at h1 h2 h3 hl hu hb
  by_cases e : u = 0
  · subst e
    rw [stp_zero] at hf ⊢
    refine ⟨hf, by simp; omega, by simp; omega, fun i hi => ?_⟩
    simp only [List.length_append, List.length_cons, List.length_nil] at hi
    show btA (bs ++ [x]) i = _
    by_cases hin : i < xs.length
    · have : i / 8 < bs.length := by omega
      have hb' := hb i hin
      unfold btA at hb' ⊢
      rw [upL this, hb', upL hin]
    · have hie : i = xs.length := by omega
      have h8 : i / 8 = bs.length := by omega
      have h0 : i % 8 = 0 := by omega
      unfold btA
      rw [h8, h0, hie, upR, upR, Nat.pow_zero, Nat.div_one]
      omega
  · obtain ⟨cs, a, rfl, ha⟩ := h3 e
    rw [stp_more cs a u x e] at hf ⊢
    simp only [List.length_append, List.length_cons, List.length_nil] at hl
    refine ⟨hf, by simp; omega, by simp; omega, fun i hi => ?_⟩
    simp only [List.length_append, List.length_cons, List.length_nil] at hi
    show btA (cs ++ [_]) i = _
    by_cases hin : i < xs.length
    · rw [upL hin, ← hb i hin]
      unfold btA
      by_cases hc : i / 8 < cs.length
      · rw [upL hc, upL hc]
      · have h8 : i / 8 = cs.length := by omega
        rw [h8, upR, upR]
        exact bit_ahead _ _ _ _ (by omega)
    · have hie : i = xs.length := by omega
      have h8 : i / 8 = cs.length := by omega
      have h0 : i % 8 = u := by omega
      unfold btA
      rw [h8, h0, hie, upR, upR]
      exact bit_last _ _ _ ha hx
theorem puts_bts (xs : List Nat) (hx : ∀ x ∈ xs, x ≤ 1) : Bts (puts ([], 0) xs) xs := by
  have h : ∀ n, n ≤ xs.length → Bts (puts ([], 0) (xs.take n)) (xs.take n) := by
    intro n
    induction n with
    | zero => intro _; rw [List.take_zero]; exact ⟨⟨by show 0 < 8; omega, fun b hb => by simp [puts] at hb, fun h => absurd rfl h⟩, rfl, rfl, fun i hi => by simp at hi⟩
    | succ n ih =>
      intro hn
      have := ih (by omega)
      rw [List.take_succ_eq_append_getElem (by omega : n < xs.length), puts_snoc]
      exact this.step _ (hx _ (List.getElem_mem _))
  have := h xs.length (Nat.le_refl _)
  rwa [List.take_length] at this
/-- The number that k bits from t on tell, the lowest bit first. -/
def rdN (bs : List Nat) (t : Nat) : Nat → Nat
  | 0 => 0
  | k + 1 => rdN bs t k + btA bs (t + k) * 2 ^ k
theorem rdN_lt (bs : List Nat) (t k : Nat) : rdN bs t k < 2 ^ k := by
  induction k with
  | zero => exact Nat.one_pos
  | succ k ih =>
    have := btA_le bs (t + k)
    have hm := Nat.mul_le_mul this (Nat.le_refl (2 ^ k))
    show rdN bs t k + _ < _
    rw [Nat.pow_succ]; omega
theorem rdN_bits (bs : List Nat) (t n k : Nat) (h : ∀ i, i < k → btA bs (t + i) = (bitsOf n k).getD i 0) : rdN bs t k = n % 2 ^ k := by
  induction k with
  | zero => show 0 = _; rw [Nat.pow_zero, Nat.mod_one]
  | succ k ih =>
    have hk := h k (by omega)
    have el : (bitsOf n k).length = k := by simp [bitsOf]
    have hr := upR (bitsOf n k) (n / 2 ^ k % 2)
    rw [el] at hr
    rw [bitsOf_succ, hr] at hk
    have := ih (fun i hi => by
      rw [h i (by omega), bitsOf_succ, upL (by rw [el]; exact hi)])
    show rdN bs t k + btA bs (t + k) * 2 ^ k = _
    rw [this, hk, Nat.pow_succ, Nat.mod_mul]
    rw [Nat.mul_comm]
end Go.Proofs.YtaeicgfebeliiaaGreatDoor
namespace Go.Proofs.YtaeicgfebeliiaaGreatDoor
open Go.ChangeShapes Go.WideShapes Go.ChangeAt Go.RowKit
set_option linter.unusedVariables false

/-- The first code of a length, and how many symbols lie ahead of it, by how many codes each length has. -/
def fsN (cn : Nat → Nat) : Nat → Nat
  | 0 => 0
  | l + 1 => if l = 0 then 0 else (fsN cn l + cn l) * 2
def asN (cn : Nat → Nat) : Nat → Nat
  | 0 => 0
  | l + 1 => if l = 0 then 0 else asN cn l + cn l
/-- The symbol k is found at the code c of L bits. -/
structure Fnd (cn : Nat → Nat) (sy : List Nat) (c L k : Nat) : Prop where
  l1 : 1 ≤ L
  l2 : L ≤ 15
  no : ∀ l, 1 ≤ l → l < L → fsN cn l + cn l ≤ c / 2 ^ (L - l)
  ge : fsN cn L ≤ c
  lt : c < fsN cn L + cn L
  ix : asN cn L + (c - fsN cn L) < sy.length
  at' : sy.getD (asN cn L + (c - fsN cn L)) 0 = k
def fndB (cn : Nat → Nat) (sy : List Nat) (c L k : Nat) : Bool :=
  decide (1 ≤ L) && (decide (L ≤ 15) && ((List.range L).all (fun l => decide (l = 0) || decide (fsN cn l + cn l ≤ c / 2 ^ (L - l))) && (decide (fsN cn L ≤ c) && (decide (c < fsN cn L + cn L) && (decide (asN cn L + (c - fsN cn L) < sy.length) && decide (sy.getD (asN cn L + (c - fsN cn L)) 0 = k))))))
theorem fnd_of {cn : Nat → Nat} {sy : List Nat} {c L k : Nat} (h : fndB cn sy c L k = true) : Fnd cn sy c L k := by
  unfold fndB at h
  simp only [Bool.and_eq_true, decide_eq_true_eq] at h
  obtain ⟨h1, h2, h3, h4, h5, h6, h7⟩ := h
  refine ⟨h1, h2, fun l hl hlt => ?_, h4, h5, h6, h7⟩
  have := List.all_eq_true.1 h3 l (List.mem_range.2 hlt)
  simp only [Bool.or_eq_true, decide_eq_true_eq] at this
  rcases this with e | e
  · omega
  · exact e
/-- The fixed codes. -/
def cnF (l : Nat) : Nat := if l = 7 then 24 else if l = 8 then 152 else if l = 9 then 112 else 0
def syF : List Nat := (List.range 24).map (· + 256) ++ List.range 144 ++ (List.range 8).map (· + 280) ++ (List.range 112).map (· + 144)
def cnD (l : Nat) : Nat := if l = 5 then 32 else 0
def syD : List Nat := List.range 32
set_option maxRecDepth 100000 in
theorem fndF_all : (List.range 288).all (fun k => fndB cnF syF (fc k) (fn k) k) = true := by decide +kernel
theorem fndD_all : (List.range 32).all (fun k => fndB cnD syD k 5 k) = true := by decide +kernel
theorem fndF (k : Nat) (h : k < 288) : Fnd cnF syF (fc k) (fn k) k := fnd_of (List.all_eq_true.1 fndF_all k (List.mem_range.2 h))
theorem fndD (k : Nat) (h : k < 32) : Fnd cnD syD k 5 k := fnd_of (List.all_eq_true.1 fndD_all k (List.mem_range.2 h))
/-- The number that the first bits of a code tell. -/
theorem code_step (c L l : Nat) (h : l < L) : c / 2 ^ (L - (l + 1)) = c / 2 ^ (L - l) * 2 + (codeOf c L).getD l 0 := by
  have e : (codeOf c L).getD l 0 = c / 2 ^ (L - 1 - l) % 2 := by
    unfold codeOf
    simp [List.getD_eq_getElem?_getD, List.getElem?_map, List.getElem?_range h]
  have e2 : L - l = (L - 1 - l) + 1 := by omega
  have e3 : L - (l + 1) = L - 1 - l := by omega
  rw [e, e2, e3, Nat.pow_succ, ← Nat.div_div_eq_div_mul]
  omega
end Go.Proofs.YtaeicgfebeliiaaGreatDoor
namespace Go.Proofs.YtaeicgfebeliiaaGreatDoor
open Go.ChangeShapes Go.WideShapes Go.ChangeAt Go.RowKit
set_option linter.unusedVariables false

theorem rdN_split (bs : List Nat) (t a b : Nat) : rdN bs t (a + b) = rdN bs t a + 2 ^ a * rdN bs (t + a) b := by
  induction b with
  | zero => show rdN bs t a = rdN bs t a + 2 ^ a * 0; omega
  | succ b ih =>
    show rdN bs t (a + b) + btA bs (t + (a + b)) * 2 ^ (a + b) = rdN bs t a + 2 ^ a * (rdN bs (t + a) b + btA bs (t + a + b) * 2 ^ b)
    have e2 : btA bs (t + a + b) * (2 ^ a * 2 ^ b) = 2 ^ a * (btA bs (t + a + b) * 2 ^ b) := Nat.mul_left_comm _ _ _
    rw [ih, Nat.mul_add, ← Nat.add_assoc t a b, Nat.pow_add, e2, Nat.add_assoc]
theorem bitsOf_get (n k i : Nat) (h : i < k) : (bitsOf n k).getD i 0 = n / 2 ^ i % 2 := by simp [bitsOf, List.getD_eq_getElem?_getD, List.getElem?_map, List.getElem?_range h]
theorem rdN_byte (bs : List Nat) (q : Nat) (h : bs.getD q 0 < 256) : rdN bs (8 * q) 8 = bs.getD q 0 := by
  rw [rdN_bits bs (8 * q) (bs.getD q 0) 8 (fun i hi => by
    rw [bitsOf_get _ _ _ hi]
    unfold btA
    rw [show (8 * q + i) / 8 = q by omega, show (8 * q + i) % 8 = i by omega])]
  exact Nat.mod_eq_of_lt h
theorem rdN_two (bs : List Nat) (q : Nat) (h : bs.getD q 0 < 256) (h2 : bs.getD (q + 1) 0 < 256) : rdN bs (8 * q) 16 = bs.getD q 0 + 256 * bs.getD (q + 1) 0 := by
  have e := rdN_split bs (8 * q) 8 8
  rw [show 8 * q + 8 = 8 * (q + 1) by omega, rdN_byte bs q h, rdN_byte bs (q + 1) h2] at e
  exact e
theorem appR (l r : List Nat) (i : Nat) : (l ++ r).getD (l.length + i) 0 = r.getD i 0 := by
  rw [List.getD_eq_getElem?_getD, List.getD_eq_getElem?_getD, List.getElem?_append_right (by omega), Nat.add_sub_cancel_left]
/-- n more, each one the one that stands d ahead of it. -/
def rep (zs : List Int) (d : Nat) : Nat → List Int
  | 0 => zs
  | n + 1 => rep zs d n ++ [(rep zs d n).getD (zs.length + n - d) 0]
theorem rep_len (zs : List Int) (d n : Nat) : (rep zs d n).length = zs.length + n := by
  induction n with
  | zero => rfl
  | succ n ih => show (rep zs d n ++ [_]).length = _; rw [List.length_append, ih]; rfl
theorem takeG (zs : List Int) (k i : Nat) (h : i < k) : (zs.take k).getD i 0 = zs.getD i 0 := by
  rw [List.getD_eq_getElem?_getD, List.getD_eq_getElem?_getD, List.getElem?_take_of_lt h]
theorem rep_take (zs : List Int) (p d n : Nat) (h : p + n ≤ zs.length) (h1 : 1 ≤ d) (hd : d ≤ p) (hr : ∀ i, i < n → zs.getD (p - d + i) 0 = zs.getD (p + i) 0) : rep (zs.take p) d n = zs.take (p + n) := by
  induction n with
  | zero => rfl
  | succ n ih =>
    show rep (zs.take p) d n ++ [(rep (zs.take p) d n).getD ((zs.take p).length + n - d) 0] = _
    rw [ih (by omega) (fun i hi => hr i (by omega)), show (zs.take p).length = p by rw [List.length_take]; omega]
    rw [takeG _ _ _ (by omega), show p + n - d = p - d + n by omega, hr n (by omega), ← Nat.add_assoc, take_succ_getD zs (p + n) (by omega)]
/-- The bits of one step stand where they were laid. -/
theorem acc_ex (zs : List Int) (j d : Nat) : ∃ r, acc zs (j + d) = acc zs j ++ r := by
  induction d with
  | zero => exact ⟨[], by simp⟩
  | succ d ih =>
    obtain ⟨r, hr⟩ := ih
    exact ⟨r ++ stepB zs (pos zs (j + d)), by show acc zs (j + d) ++ stepB zs (pos zs (j + d)) = _; rw [hr, List.append_assoc]⟩
theorem acc_at (zs : List Int) (j J : Nat) (h : j < J) (X : List Nat) : ∃ r, acc zs J ++ X = acc zs j ++ (stepB zs (pos zs j) ++ r) := by
  obtain ⟨r, hr⟩ := acc_ex zs (j + 1) (J - (j + 1))
  rw [show j + 1 + (J - (j + 1)) = J by omega] at hr
  refine ⟨r ++ X, ?_⟩
  rw [hr]
  show acc zs j ++ stepB zs (pos zs j) ++ r ++ X = _
  simp only [List.append_assoc]
/-- What is known of the bytes of a block of the fixed codes. -/
structure Bks (zs : List Int) (J : Nat) (ds : List Nat) : Prop where
  h8 : ∀ d ∈ ds, d < 256
  room : (acc zs J).length + 7 ≤ 8 * ds.length
  bit : ∀ i, i < (acc zs J).length + 7 → btA ds i = (acc zs J ++ codeOf 0 7).getD i 0
theorem outB_len8 (zs : List Int) (J : Nat) : (outB zs J).length = ((acc zs J).length + 7 + 7) / 8 := by
  have h := puts_bts (acc zs J ++ codeOf 0 7) (fun x hx => by
    rcases List.mem_append.1 hx with e | e
    · exact acc_bits zs J x e
    · exact codeOf_bits' 0 7 x e)
  have hl := h.len
  rw [List.length_append, codeOf_len] at hl
  exact hl
theorem bks_ex (zs : List Int) (J : Nat) (ex : List Nat) (hx : ∀ d ∈ ex, d < 256) : Bks zs J (outB zs J ++ ex) := by
  have h := puts_bts (acc zs J ++ codeOf 0 7) (fun x hx => by
    rcases List.mem_append.1 hx with e | e
    · exact acc_bits zs J x e
    · exact codeOf_bits' 0 7 x e)
  have hl := outB_len8 zs J
  refine ⟨fun d hd => (List.mem_append.1 hd).elim (h.fine.2.1 d) (hx d), by rw [List.length_append]; omega, fun i hi => ?_⟩
  rw [← h.bit i (by rw [List.length_append, codeOf_len]; exact hi)]
  have e : i / 8 < (outB zs J).length := by omega
  unfold btA
  rw [upL e]; rfl
theorem bks_out (zs : List Int) (J : Nat) : Bks zs J (outB zs J) := by
  have h := bks_ex zs J [] (fun d hd => by cases hd)
  rwa [List.append_nil] at h
theorem Bks.step {zs : List Int} {J : Nat} {ds : List Nat} (h : Bks zs J ds) (j : Nat) (hj : j < J) : (acc zs (j + 1)).length ≤ (acc zs J).length ∧ ∀ i, i < (stepB zs (pos zs j)).length → btA ds ((acc zs j).length + i) = (stepB zs (pos zs j)).getD i 0 := by
  obtain ⟨r, hr⟩ := acc_at zs j J hj (codeOf 0 7)
  obtain ⟨r2, hr2⟩ := acc_ex zs (j + 1) (J - (j + 1))
  rw [show j + 1 + (J - (j + 1)) = J by omega] at hr2
  have e : acc zs (j + 1) = acc zs j ++ stepB zs (pos zs j) := rfl
  have hl : (acc zs (j + 1)).length ≤ (acc zs J).length := by rw [hr2, List.length_append]; omega
  refine ⟨hl, fun i hi => ?_⟩
  rw [e, List.length_append] at hl
  rw [h.bit _ (by omega), hr, appR, upL hi]
theorem Bks.last {zs : List Int} {J : Nat} {ds : List Nat} (h : Bks zs J ds) : ∀ i, i < 7 → btA ds ((acc zs J).length + i) = (codeOf 0 7).getD i 0 := by
  intro i hi
  rw [h.bit _ (by omega), appR]
theorem acc_ge (zs : List Int) (J : Nat) : 3 ≤ (acc zs J).length := by
  obtain ⟨r, hr⟩ := acc_ex zs 0 J
  rw [Nat.zero_add] at hr
  have e : (acc zs 0).length = 3 := by show (bitsOf 3 3).length = 3; rw [bitsOf_len]
  rw [hr, List.length_append, e]; omega
theorem Bks.head {zs : List Int} {J : Nat} {ds : List Nat} (h : Bks zs J ds) : rdN ds 0 1 = 1 ∧ rdN ds 1 2 = 1 := by
  obtain ⟨r, hr⟩ := acc_ex zs 0 J
  rw [Nat.zero_add] at hr
  have e : acc zs 0 = [1, 1, 0] := rfl
  have ha := acc_ge zs J
  have b0 := h.bit 0 (by omega)
  have b1 := h.bit 1 (by omega)
  have b2 := h.bit 2 (by omega)
  rw [hr, e] at b0 b1 b2
  simp at b0 b1 b2
  constructor
  · show 0 + btA ds (0 + 0) * 2 ^ 0 = 1; rw [Nat.zero_add 0, b0]
  · show 0 + btA ds (1 + 0) * 2 ^ 0 + btA ds (1 + 1) * 2 ^ 1 = 1; rw [show 1 + 0 = 1 from rfl, show 1 + 1 = 2 from rfl, b1, b2]
/-- The four parts of a match's bits. -/
theorem Bks.four {ds : List Nat} {t : Nat} {a b c d : List Nat} (h : ∀ i, i < (a ++ b ++ c ++ d).length → btA ds (t + i) = (a ++ b ++ c ++ d).getD i 0) :
    (∀ i, i < a.length → btA ds (t + i) = a.getD i 0) ∧ (∀ i, i < b.length → btA ds (t + a.length + i) = b.getD i 0) ∧ (∀ i, i < c.length → btA ds (t + a.length + b.length + i) = c.getD i 0) ∧ ∀ i, i < d.length → btA ds (t + a.length + b.length + c.length + i) = d.getD i 0 := by
  have hl : (a ++ b ++ c ++ d).length = a.length + b.length + c.length + d.length := by simp only [List.length_append]
  refine ⟨fun i hi => ?_, fun i hi => ?_, fun i hi => ?_, fun i hi => ?_⟩
  · rw [h i (by omega), List.append_assoc, List.append_assoc, upL hi]
  · have := h (a.length + i) (by omega)
    rw [List.append_assoc, List.append_assoc, appR, upL hi] at this
    rw [Nat.add_assoc, this]
  · have := h (a.length + (b.length + i)) (by omega)
    rw [List.append_assoc, List.append_assoc, appR, appR, upL hi] at this
    rw [Nat.add_assoc, Nat.add_assoc, this]
  · have := h (a.length + (b.length + (c.length + i))) (by omega)
    rw [List.append_assoc, List.append_assoc, appR, appR, appR] at this
    rw [Nat.add_assoc, Nat.add_assoc, Nat.add_assoc, this]
end Go.Proofs.YtaeicgfebeliiaaGreatDoor
namespace Go.Proofs.YtaeicgfebeliiaaGreatDoor
open Go.ChangeShapes Go.WideShapes Go.ChangeAt Go.RowKit
set_option linter.unusedVariables false

/-- Nothing but the block B has changed. -/
structure Sel (B : Nat) (w w' : World) : Prop where
  os : w'.os = w.os
  tape : w'.tape = w.tape
  output : w'.output = w.output
  size : w'.heap.size = w.heap.size
  block : ∀ k, k ≠ B → w'.heap[k]? = w.heap[k]?
theorem Sel.refl (B : Nat) (w : World) : Sel B w w := ⟨rfl, rfl, rfl, rfl, fun _ _ => rfl⟩
theorem Sel.trans {B : Nat} {a b c : World} (h : Sel B a b) (k : Sel B b c) : Sel B a c :=
  ⟨k.os.trans h.os, k.tape.trans h.tape, k.output.trans h.output, k.size.trans h.size, fun i hi => (k.block i hi).trans (h.block i hi)⟩
theorem Sel.setCell {B : Nat} {a b : World} (h : Sel B a b) (o : Nat) (u : Value) : Sel B a (b.setCell ⟨B, o, none⟩ u) :=
  h.trans ⟨rfl, rfl, rfl, by simp [World.setCell], fun k hk => Below.heap_setCell _ _ _ _ (by simpa using hk)⟩
theorem Sel.below {B : Nat} {a b : World} (h : Sel B a b) : Below B a b := ⟨h.os, h.tape, h.output, by have := h.size; omega, fun k hk => h.block k (by omega)⟩

/-- The numbers zs lie in the block b, which may be written. -/
def At (w : World) (b : Nat) (zs : List Int) : Prop :=
  b < w.heap.size ∧ (∀ i, i < zs.length → w.cell? ⟨b, 0 + i, none⟩ = some (.int .u8 (zs.getD i 0))) ∧ ∀ o, w.frozen? ⟨b, o, none⟩ = false
/-- Nothing that was there is written. -/
def Nw (w w' : World) : Prop := Below w.heap.size w w'
theorem Nw.trans {a b c : World} (h : Nw a b) (k : Nw b c) : Nw a c := Below.trans h (Below.mono k (Below.size h))
theorem Kp.nw {a b : World} (h : Kp a b) : Nw a b := h.1
theorem At.nw {w w' : World} {b : Nat} {zs : List Int} (h : At w b zs) (k : Nw w w') : At w' b zs :=
  ⟨Nat.lt_of_lt_of_le h.1 (Below.size k), fun i hi => (Below.cell k (p := ⟨b, 0 + i, none⟩) h.1).trans (h.2.1 i hi), fun o => (Below.frozen k (p := ⟨b, o, none⟩) h.1).trans (h.2.2 o)⟩
theorem At.sel {w w' : World} {b B : Nat} {zs : List Int} (h : At w b zs) (k : Sel B w w') (hne : b ≠ B) : At w' b zs :=
  ⟨by rw [k.size]; exact h.1, fun i hi => (World.cell?_of_block (w := w) (a := ⟨b, 0 + i, none⟩) (k.block b hne)).trans (h.2.1 i hi), fun o => (World.frozen?_of_block (w := w) (a := ⟨b, o, none⟩) (k.block b hne)).trans (h.2.2 o)⟩
def ints (bs : List Nat) : List Int := bs.map (fun b : Nat => (b : Int))
theorem ints_len (bs : List Nat) : (ints bs).length = bs.length := by simp [ints]
theorem ints_get (bs : List Nat) (i : Nat) : (ints bs).getD i 0 = ((bs.getD i 0 : Nat) : Int) := by
  by_cases h : i < bs.length
  · simp [ints, h]
  · rw [List.getD_eq_getElem?_getD, List.getD_eq_getElem?_getD, List.getElem?_eq_none (by rw [ints_len]; omega), List.getElem?_eq_none (by omega)]; rfl
theorem At.alloc (w : World) (zs : List Int) (t : TypeId) : At (w.alloc (.cells (cellsOf .u8 zs) t)) w.heap.size zs := by
  refine ⟨by simp, fun i hi => ?_, fun o => World.frozen?_alloc_at _ _ _ _ rfl⟩
  have := cellsOf_get .u8 zs i hi
  simp [this]
theorem At.row {w : World} {b : Nat} {zs : List Int} (h : At w b zs) : Row .u8 w (some ⟨b, 0, none⟩) zs := Or.inr ⟨b, 0, rfl, h.1, h.2.1⟩
theorem Row.below {k : IntKind} {w w' : World} {a : Option Addr} {zs : List Int} (h : Row k w a zs) (hk : Below w.heap.size w w') : Row k w' a zs := by
  rcases h with h | ⟨b, off, rfl, hb, hc⟩
  · exact Or.inl h
  · exact Or.inr ⟨b, off, rfl, Nat.lt_of_lt_of_le hb hk.size, fun i hi => (hk.cell (p := ⟨b, off + i, none⟩) hb).trans (hc i hi)⟩

end Go.Proofs.YtaeicgfebeliiaaGreatDoor

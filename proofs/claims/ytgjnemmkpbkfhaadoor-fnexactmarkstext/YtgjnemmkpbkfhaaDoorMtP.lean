/-
  The text of nodes, on lists: as a tree tells it, and as it is written from the front; each theorem names its conditions.
-/
import Derived.Test.YtgjnemmkpbkfhaaDoorMtE
import Derived.Test.YtgjnemmkpbkfhaaDoorUnP
import Derived.Test.YtgjnemmkpbkfhaaDoorMkS
namespace Go.Proofs.YtgjnemmkpbkfhaaDoor
open Go.ChangeShapes Go.WideShapes Go.ChangeAt Go.RowKit
set_option linter.unusedVariables false

def blT : ByteArray := ⟨#[32]⟩
def eqT : ByteArray := ⟨#[61, 34]⟩
def quT : ByteArray := ⟨#[34]⟩
def ltT : ByteArray := ⟨#[60]⟩
def gtT : ByteArray := ⟨#[62]⟩
def shutT : ByteArray := ⟨#[47, 62]⟩
def backT : ByteArray := ⟨#[60, 47]⟩
def attT (p : Pair) : ByteArray := blT ++ p.1 ++ eqT ++ told p.2 ++ quT
def attsN (l : List Pair) : Nat → ByteArray
  | 0 => ByteArray.empty
  | n + 1 => attsN l n ++ attT (pairAt l n)
def nmAt (l : List ND) (k : Nat) : ByteArray := (nodeAt l k).name
def headT (l : List ND) (k : Nat) : ByteArray := ltT ++ nmAt l k ++ attsN (nodeAt l k).attrs (nodeAt l k).attrs.length
def endT (l : List ND) (k : Nat) : ByteArray := backT ++ nmAt l k ++ gtT
theorem attsN_size (l : List Pair) : ∀ n, n ≤ l.length → (attsN l n).size ≤ 6 * (n + bulk2 (l.take n)) := by
  intro n
  induction n with
  | zero => intro _; exact Nat.zero_le _
  | succ n ih =>
    intro h
    have h1 := ih (by omega)
    have h2 := bulk2_step l n (by omega)
    have h3 := told_size (pairAt l n).2
    have e1 : blT.size = 1 := rfl
    have e2 : eqT.size = 2 := rfl
    have e3 : quT.size = 1 := rfl
    rw [attsN, attT]
    simp only [ByteArray.size_append, e1, e2, e3]
    omega
/-- How much a node may take. -/
def wtN (l : List ND) (n : Nat) : Nat := 6 * bulkL (l.take n) + 6 * n
theorem wtN_step (l : List ND) (k : Nat) (h : k < l.length) : wtN l (k + 1) = wtN l k + 6 * bulkN (nodeAt l k) + 6 := by
  unfold wtN; rw [bulkL_step l k h]; omega
theorem head_size (l : List ND) (k : Nat) : (headT l k).size + (endT l k).size + 1 ≤ 6 * bulkN (nodeAt l k) + 6 := by
  have h := attsN_size (nodeAt l k).attrs _ (Nat.le_refl _)
  rw [List.take_length] at h
  have e1 : ltT.size = 1 := rfl
  have e2 : gtT.size = 1 := rfl
  have e3 : backT.size = 2 := rfl
  unfold headT endT bulkN
  simp only [ByteArray.size_append, e1, e2, e3]
  have : (nmAt l k).size = (nodeAt l k).name.size := rfl
  omega
/-- What stands in k, of n nodes from i on. -/
def kids (l : List ND) (t : Nat → ByteArray) (k i : Nat) : Nat → ByteArray
  | 0 => ByteArray.empty
  | n + 1 => if upAt l (i + n) = (k : Int) then kids l t k i n ++ t (i + n) else kids l t k i n
/-- The text of a node and what is in it. -/
def tx (l : List ND) : Nat → Nat → ByteArray
  | 0, _ => ByteArray.empty
  | f + 1, k => if (nmAt l k).size = 0 then told (nodeAt l k).text else
      if (kids l (tx l f) k (k + 1) (l.length - (k + 1))).size = 0 then headT l k ++ shutT else headT l k ++ gtT ++ kids l (tx l f) k (k + 1) (l.length - (k + 1)) ++ endT l k
theorem kids_congr {l : List ND} {t t' : Nat → ByteArray} {k i : Nat} : ∀ n, (∀ j, i ≤ j → j < i + n → t j = t' j) → kids l t k i n = kids l t' k i n := by
  intro n
  induction n with
  | zero => intro _; rfl
  | succ n ih =>
    intro h
    rw [kids, kids, ih (fun j h1 h2 => h j h1 (by omega)), h (i + n) (by omega) (by omega)]
theorem tx_fuel (l : List ND) : ∀ f g k, l.length - k ≤ f → l.length - k ≤ g → k < l.length → tx l f k = tx l g k := by
  intro f
  induction f with
  | zero => intro g k h1 _ h3; omega
  | succ f ih =>
    intro g k h1 h2 h3
    cases g with
    | zero => omega
    | succ g =>
      have e : kids l (tx l f) k (k + 1) (l.length - (k + 1)) = kids l (tx l g) k (k + 1) (l.length - (k + 1)) := kids_congr _ fun j h4 h5 => ih g j (by omega) (by omega) (by omega)
      rw [tx, tx, e]
def tX (l : List ND) (k : Nat) : ByteArray := tx l l.length k
theorem tX_eq {l : List ND} {k : Nat} (hk : k < l.length) : tX l k = if (nmAt l k).size = 0 then told (nodeAt l k).text else
      if (kids l (tX l) k (k + 1) (l.length - (k + 1))).size = 0 then headT l k ++ shutT else headT l k ++ gtT ++ kids l (tX l) k (k + 1) (l.length - (k + 1)) ++ endT l k := by
  unfold tX
  obtain ⟨f, hf⟩ : ∃ f, l.length = f + 1 := ⟨l.length - 1, by omega⟩
  have e : kids l (tx l f) k (k + 1) (l.length - (k + 1)) = kids l (tx l l.length) k (k + 1) (l.length - (k + 1)) := kids_congr _ fun j h4 h5 => tx_fuel l f l.length j (by omega) (by omega) (by omega)
  rw [← e]
  conv => lhs; rw [hf]
  rw [tx]
theorem kids_none {l : List ND} {t : Nat → ByteArray} {k i : Nat} : ∀ n, (∀ j, i ≤ j → j < i + n → upAt l j ≠ (k : Int)) → kids l t k i n = ByteArray.empty := by
  intro n
  induction n with
  | zero => intro _; rfl
  | succ n ih => intro h; rw [kids, if_neg (h _ (by omega) (by omega))]; exact ih fun j h1 h2 => h j h1 (by omega)
theorem kids_add {l : List ND} {t : Nat → ByteArray} {k i m : Nat} : ∀ n, kids l t k i (m + n) = kids l t k i m ++ kids l t k (i + m) n := by
  intro n
  induction n with
  | zero => rw [Nat.add_zero]; show _ = _ ++ ByteArray.empty; rw [ByteArray.append_empty]
  | succ n ih =>
    rw [← Nat.add_assoc, kids, kids, ih, Nat.add_assoc]
    split
    · rw [ByteArray.append_assoc]
    · rfl
theorem kids_one {l : List ND} {t : Nat → ByteArray} {k i : Nat} (h0 : upAt l i = (k : Int)) (n : Nat) (h : ∀ j, i < j → j < i + (n + 1) → upAt l j ≠ (k : Int)) : kids l t k i (n + 1) = t i := by
  rw [Nat.add_comm n 1, kids_add n, kids_none n (fun j h1 h2 => h j (by omega) (by omega)), ByteArray.append_empty]
  show (if upAt l (i + 0) = (k : Int) then ByteArray.empty ++ t (i + 0) else ByteArray.empty) = t i
  rw [Nat.add_zero, if_pos h0, ByteArray.empty_append]

theorem end_exists {l : List ND} {k : Nat} (hk : k < l.length) : ∃ n, EndAt l k n := by
  have key : ∀ d n, l.length - n = d → k < n → n ≤ l.length → (∀ j, k < j → j < n → (k : Int) ≤ upAt l j) → ∃ n, EndAt l k n := by
    intro d
    induction d with
    | zero => intro n h1 h2 h3 h4; exact ⟨n, h2, h3, h4, fun h => by omega⟩
    | succ d ih =>
      intro n h1 h2 h3 h4
      by_cases c : (k : Int) ≤ upAt l n
      · exact ih (n + 1) (by omega) (by omega) (by omega) fun j h5 h6 => by
          by_cases e : j = n
          · rw [e]; exact c
          · exact h4 j h5 (by omega)
      · exact ⟨n, h2, h3, h4, fun _ => by omega⟩
  exact key _ (k + 1) rfl (by omega) (by omega) fun j h1 h2 => by omega
/-- Those around a node are around one another. -/
theorem meets_chain (l : List ND) (n : Nat) (hu : Ups l n) (hn : n ≤ l.length) (x y : Int) (hxy : x ≤ y) : ∀ (f : Nat) (k : Int), k < f → k < n → meetsN l x k = true → meetsN l y k = true → meetsN l x y = true := by
  intro f
  induction f with
  | zero => intro k h _ hm; rw [meetsN_neg l x k (by omega)] at hm; cases hm
  | succ f ih =>
    intro k h hk hx hy
    by_cases c : k < 0
    · rw [meetsN_neg l x k c] at hx; cases hx
    · by_cases e : k = y
      · rw [← e]; exact hx
      · have hle := meetsN_le l y n hu hn (f + 1) k h hk hy
        have hh := hu k.toNat (by omega)
        rw [meetsN_up l y k n hu hn (by omega) hk e] at hy
        rw [meetsN_up l x k n hu hn (by omega) hk (by omega)] at hx
        exact ih _ (by omega) (by omega) hx hy
theorem end_in {l : List ND} (hg : GoodP l) {k n j : Nat} (h : EndAt l k n) (h1 : k ≤ j) (h2 : j < n) : meetsN l k (j : Int) = true := by
  have hu := ups_of l l.length (Nat.le_refl _) hg.2
  have hle := h.le
  by_cases e : j = k
  · subst e; exact meetsN_same l j (by omega)
  · exact under_in l l.length hu (Nat.le_refl _) k (j + 1) j (by omega) (by omega) (by omega) fun i h3 h4 => h.ins i h3 (by omega)
/-- Behind what is in a child of k the next child of k stands, or what is in k ends. -/
theorem next_child {l : List ND} (hg : GoodP l) {k n i m : Nat} (hk : EndAt l k n) (hi : EndAt l i m) (hup : upAt l i = (k : Int)) (hki : k < i) (hin : i < n) : m ≤ n ∧ (m = n ∨ upAt l m = (k : Int)) := by
  have hu := ups_of l l.length (Nat.le_refl _) hg.2
  have hmn : m ≤ n := by
    rcases Nat.lt_or_ge n m with c | c
    · have h1 := hi.ins n (by omega) c
      have h2 := hk.out (by have := hi.le; omega)
      omega
    · exact c
  refine ⟨hmn, ?_⟩
  by_cases e : m = n
  · exact Or.inl e
  · have hml : m < l.length := by have := hk.le; omega
    have hlt := hi.lt
    have h1 := hi.out hml
    have h2 := hk.ins m (by omega) (by omega)
    obtain ⟨p, rfl⟩ : ∃ p, m = p + 1 := ⟨m - 1, by omega⟩
    have hok := hg.2 (p + 1) hml
    simp only [okB, Bool.and_eq_true] at hok
    have hp := hok.2
    unfold placeB at hp
    simp only [Bool.and_eq_true] at hp
    have h3 := hp.1
    have h4 := end_in hg hi (j := p) (by omega) (by omega)
    have h5 := meets_chain l l.length hu (Nat.le_refl _) (upAt l (p + 1)) i (by omega) (p + 1) (p : Int) (by omega) (by omega) h3 h4
    rw [meetsN_up l _ (i : Int) l.length hu (Nat.le_refl _) (by omega) (by omega) (by omega), Int.toNat_natCast, hup] at h5
    have h6 := meetsN_le l _ l.length hu (Nat.le_refl _) (k + 1) (k : Int) (by omega) (by omega) h5
    exact Or.inr (by omega)

/-- Elements are ended, from the innermost on, up to one. -/
def closeP (l : List ND) (up : Int) : List Nat → ByteArray → List Nat × ByteArray
  | [], o => ([], o)
  | k :: rs, o => if (k : Int) = up then (k :: rs, o) else closeP l up rs (o ++ endT l k)
def clT (l : List ND) : List Nat → ByteArray
  | [] => ByteArray.empty
  | k :: rs => endT l k ++ clT l rs
theorem close_to {l : List ND} {k : Nat} {rs : List Nat} : ∀ (ex : List Nat) (o : ByteArray), (∀ x, x ∈ ex → x ≠ k) → closeP l (k : Int) (ex ++ k :: rs) o = (k :: rs, o ++ clT l ex) := by
  intro ex
  induction ex with
  | nil => intro o _; show closeP l (k : Int) (k :: rs) o = (k :: rs, o ++ ByteArray.empty); rw [closeP, if_pos rfl, ByteArray.append_empty]
  | cons x ex ih =>
    intro o h
    have hx : ¬ (x : Int) = (k : Int) := fun e => h x (by simp) (by omega)
    show closeP l (k : Int) (x :: (ex ++ k :: rs)) o = _
    rw [closeP, if_neg hx, ih _ (fun y hy => h y (by simp [hy])), clT, ByteArray.append_assoc]
theorem close_all {l : List ND} : ∀ (ex : List Nat) (o : ByteArray), closeP l (-1) ex o = ([], o ++ clT l ex) := by
  intro ex
  induction ex with
  | nil => intro o; show ([], o) = ([], o ++ ByteArray.empty); rw [ByteArray.append_empty]
  | cons x ex ih =>
    intro o
    rw [closeP, if_neg (by omega), ih, clT, ByteArray.append_assoc]
def kidB (l : List ND) (k : Nat) : Bool := decide (k + 1 < l.length ∧ upAt l (k + 1) = (k : Int))
/-- One node is written. -/
def stepP (l : List ND) (k : Nat) (s : List Nat × ByteArray) : List Nat × ByteArray :=
  if (nmAt l k).size = 0 then ((closeP l (upAt l k) s.1 s.2).1, (closeP l (upAt l k) s.1 s.2).2 ++ told (nodeAt l k).text)
  else if kidB l k = true then (k :: (closeP l (upAt l k) s.1 s.2).1, (closeP l (upAt l k) s.1 s.2).2 ++ headT l k ++ gtT)
  else ((closeP l (upAt l k) s.1 s.2).1, (closeP l (upAt l k) s.1 s.2).2 ++ headT l k ++ shutT)
def runP (l : List ND) : Nat → Nat → List Nat × ByteArray → List Nat × ByteArray
  | _, 0, s => s
  | i, n + 1, s => runP l (i + 1) n (stepP l i s)
theorem runP_add (l : List ND) : ∀ a i b s, runP l i (a + b) s = runP l (i + a) b (runP l i a s) := by
  intro a
  induction a with
  | zero => intro i b s; rw [Nat.zero_add, Nat.add_zero]; rfl
  | succ a ih =>
    intro i b s
    rw [show a + 1 + b = (a + b) + 1 by omega, runP, runP, ih, show i + 1 + a = i + (a + 1) by omega]
/-- What a node's own writing leaves. -/
def SubP (l : List ND) (k n : Nat) : Prop := ∀ (rs : List Nat) (o : ByteArray), ((rs = [] ∧ upAt l k = -1) ∨ ∃ (p : Nat) (r : List Nat), rs = p :: r ∧ (p : Int) = upAt l k) →
  ∃ (ex : List Nat) (o' : ByteArray), runP l k (n - k) (rs, o) = (ex ++ rs, o') ∧ (∀ x, x ∈ ex → k ≤ x) ∧ o' ++ clT l ex = o ++ tX l k
theorem kids_run {l : List ND} (hg : GoodP l) {k n : Nat} (hk : EndAt l k n) (hs : ∀ i m, k < i → i < n → EndAt l i m → SubP l i m ∧ (tX l i).size + wtN l i ≤ wtN l m) : ∀ d i, n - i = d → k < i → i ≤ n → (i = n ∨ upAt l i = (k : Int)) → ∀ ex rs o, (∀ x, x ∈ ex → k < x) →
    (∃ ex' o', runP l i (n - i) (ex ++ k :: rs, o) = (ex' ++ k :: rs, o') ∧ (∀ x, x ∈ ex' → k < x) ∧ o' ++ clT l ex' = o ++ clT l ex ++ kids l (tX l) k i (n - i)) ∧ (kids l (tX l) k i (n - i)).size + wtN l i ≤ wtN l n := by
  intro d
  induction d using Nat.strongRecOn with
  | ind d ih =>
    intro i hd hki hin hb ex rs o hex
    by_cases e : i = n
    · subst e
      rw [Nat.sub_self]
      refine ⟨⟨ex, o, rfl, hex, ?_⟩, ?_⟩
      · show _ = _ ++ ByteArray.empty; rw [ByteArray.append_empty]
      · show ByteArray.empty.size + _ ≤ _; rw [ByteArray.size_empty]; omega
    · have hup : upAt l i = (k : Int) := by
        rcases hb with h | h
        · exact absurd h e
        · exact h
      have hil : i < l.length := by have := hk.le; omega
      obtain ⟨m, hm⟩ := end_exists hil
      have him := hm.lt
      obtain ⟨hmn, hb2⟩ := next_child hg hk hm hup hki (by omega)
      obtain ⟨hsub, hsz⟩ := hs i m hki (by omega) hm
      obtain ⟨f, hf⟩ : ∃ f, m - i = f + 1 := ⟨m - i - 1, by omega⟩
      have hone : kids l (tX l) k i (m - i) = tX l i := by
        rw [hf]
        exact kids_one hup f fun j h1 h2 h3 => by
          have := hm.ins j h1 (by omega)
          omega
      have hsplit : kids l (tX l) k i (n - i) = tX l i ++ kids l (tX l) k m (n - m) := by
        rw [show n - i = (m - i) + (n - m) by omega, kids_add, hone, show i + (m - i) = m by omega]
      -- the step at i, with the extras ended first, is the step from k alone
      have hstep : ∀ X : List Nat × ByteArray, X = (ex ++ k :: rs, o) → stepP l i X = stepP l i (k :: rs, o ++ clT l ex) := by
        rintro X rfl
        have h1 : closeP l (upAt l i) (ex ++ k :: rs) o = (k :: rs, o ++ clT l ex) := by rw [hup]; exact close_to ex o fun x hx => by have := hex x hx; omega
        have h2 : closeP l (upAt l i) (k :: rs) (o ++ clT l ex) = (k :: rs, o ++ clT l ex) := by rw [hup, closeP, if_pos rfl]
        unfold stepP
        simp only [h1, h2]
      obtain ⟨ex2, o2, hr2, he2, hc2⟩ := hsub (k :: rs) (o ++ clT l ex) (Or.inr ⟨k, rs, rfl, hup.symm⟩)
      have hr3 : runP l i (m - i) (ex ++ k :: rs, o) = (ex2 ++ k :: rs, o2) := by
        rw [hf, runP] at hr2
        rw [hf, runP, hstep _ rfl]
        exact hr2
      obtain ⟨⟨ex3, o3, hr4, he3, hc3⟩, hsz3⟩ := ih (n - m) (by omega) m rfl (by omega) hmn hb2 ex2 rs o2 (fun x hx => by have := he2 x hx; omega)
      refine ⟨⟨ex3, o3, ?_, he3, ?_⟩, ?_⟩
      · rw [show n - i = (m - i) + (n - m) by omega, runP_add, hr3, show i + (m - i) = m by omega]
        exact hr4
      · rw [hc3, hc2, hsplit]
        simp only [ByteArray.append_assoc]
      · rw [hsplit, ByteArray.size_append]
        omega
theorem kids_rest {l : List ND} (hg : GoodP l) {k n : Nat} (hk : EndAt l k n) : kids l (tX l) k (k + 1) (l.length - (k + 1)) = kids l (tX l) k (k + 1) (n - (k + 1)) := by
  have hu := ups_of l l.length (Nat.le_refl _) hg.2
  have h1 := hk.lt
  have h2 := hk.le
  rw [show l.length - (k + 1) = (n - (k + 1)) + (l.length - n) by omega, kids_add, show k + 1 + (n - (k + 1)) = n by omega, kids_none (i := n) (l.length - n) ?_, ByteArray.append_empty]
  intro j h3 h4 h5
  have h6 := under_out hg k n h1 (by omega) (hk.out (by omega)) (j - n) (by omega)
  rw [show n + (j - n) = j by omega, meetsN_up l k (j : Int) l.length hu (Nat.le_refl _) (by omega) (by omega) (by omega), Int.toNat_natCast, h5, meetsN_same l k (by omega)] at h6
  cases h6
theorem text_some {l : List ND} (hg : GoodP l) {k : Nat} (hk : k < l.length) (h0 : (nmAt l k).size = 0) : (nodeAt l k).text.size ≠ 0 := by
  have hok := hg.2 k hk
  have elem : elemB (nodeAt l k) = true → False := by
    intro he
    unfold elemB at he
    rw [Bool.and_eq_true] at he
    have := he.1
    have h0' : (nodeAt l k).name.size = 0 := h0
    rw [empty_of h0'] at this
    revert this
    decide
  cases k with
  | zero =>
    simp only [okB, Bool.and_eq_true] at hok
    exact absurd hok.1 elem
  | succ j =>
    simp only [okB, Bool.and_eq_true, Bool.or_eq_true] at hok
    rcases hok.1 with he | he
    · exact absurd he elem
    · unfold textB at he
      simp only [Bool.and_eq_true, decide_eq_true_eq, Bool.not_eq_true', decide_eq_false_iff_not] at he
      exact he.2.2.1
theorem tX_some {l : List ND} (hg : GoodP l) {k : Nat} (hk : k < l.length) : (tX l k).size ≠ 0 := by
  rw [tX_eq hk]
  have e1 : ltT.size = 1 := rfl
  split
  · rename_i h
    have h1 := told_size (nodeAt l k).text
    have h2 := text_some hg hk h
    omega
  · split
    · unfold headT; simp only [ByteArray.size_append, e1]; omega
    · unfold headT; simp only [ByteArray.size_append, e1]; omega
/-- Every node of good ones: what is written from it on is its text, but for what is still open. -/
theorem sub_all {l : List ND} (hg : GoodP l) : ∀ d k n, n - k = d → EndAt l k n → SubP l k n ∧ (tX l k).size + wtN l k ≤ wtN l n := by
  intro d
  induction d using Nat.strongRecOn with
  | ind d ih =>
    intro k n hd hk
    have hkn := hk.lt
    have hle := hk.le
    have hkl : k < l.length := by omega
    have hws := wtN_step l k hkl
    have hlow : ∀ m, k + 1 ≤ m → m ≤ l.length → wtN l (k + 1) ≤ wtN l m := by
      intro m h1 h2
      unfold wtN
      have : ∀ c, k + 1 + c ≤ l.length → bulkL (l.take (k + 1)) ≤ bulkL (l.take (k + 1 + c)) := by
        intro c
        induction c with
        | zero => intro _; exact Nat.le_refl _
        | succ c ihc =>
          intro h
          have := ihc (by omega)
          have hs := bulkL_step l (k + 1 + c) (by omega)
          rw [show k + 1 + (c + 1) = (k + 1 + c) + 1 by omega, hs]
          omega
      have h3 := this (m - (k + 1)) (by omega)
      rw [show k + 1 + (m - (k + 1)) = m by omega] at h3
      omega
    have hcl : ∀ (rs : List Nat) (o : ByteArray), ((rs = [] ∧ upAt l k = -1) ∨ ∃ (p : Nat) (r : List Nat), rs = p :: r ∧ (p : Int) = upAt l k) → closeP l (upAt l k) rs o = (rs, o) := by
      intro rs o h
      rcases h with ⟨rfl, _⟩ | ⟨p, r, rfl, hp⟩
      · rfl
      · rw [closeP, if_pos hp]
    have hs : ∀ i m, k < i → i < n → EndAt l i m → SubP l i m ∧ (tX l i).size + wtN l i ≤ wtN l m := fun i m h1 h3 h2 => by
      have hmn : m ≤ n := by
        rcases Nat.lt_or_ge n m with c | c
        · have h4 := h2.ins n (by omega) c
          have h5 := hk.out (by have := h2.le; omega)
          omega
        · exact c
      exact ih (m - i) (by have := h2.lt; omega) i m rfl h2
    obtain ⟨f, hf⟩ : ∃ f, n - k = f + 1 := ⟨n - k - 1, by omega⟩
    have hff : f = n - (k + 1) := by omega
    by_cases h0 : (nmAt l k).size = 0
    · -- a text: nothing is below it
      have hn1 : n = k + 1 := by
        rcases Nat.lt_or_ge (k + 1) n with c | c
        · exfalso
          have h1 := hk.ins (k + 1) (by omega) c
          have hu := ups_of l l.length (Nat.le_refl _) hg.2
          have h2 := hu (k + 1) (by omega)
          have hok := hg.2 (k + 1) (by omega)
          simp only [okB, Bool.and_eq_true] at hok
          have hp := hok.2
          unfold placeB at hp
          simp only [Bool.and_eq_true] at hp
          have hn := hp.2.1
          rw [show upAt l (k + 1) = (k : Int) by omega, Int.toNat_natCast] at hn
          unfold named at hn
          have h0' : (nodeAt l k).name.size = 0 := h0
          rw [h0'] at hn
          cases hn
        · omega
      subst hn1
      have ht := told_size (nodeAt l k).text
      have hX : tX l k = told (nodeAt l k).text := by rw [tX_eq hkl, if_pos h0]
      refine ⟨fun rs o h => ⟨[], o ++ tX l k, ?_, fun x hx => (by cases hx), ?_⟩, ?_⟩
      · rw [show k + 1 - k = 1 by omega]
        show stepP l k (rs, o) = _
        unfold stepP
        rw [if_pos h0, hcl rs o h, hX]
        rfl
      · show _ ++ ByteArray.empty = _; rw [ByteArray.append_empty]
      · rw [hX, hws]
        unfold bulkN
        omega
    · by_cases hb : kidB l k = true
      · unfold kidB at hb
        rw [decide_eq_true_eq] at hb
        have hkn1 : k + 1 < n := by
          rcases Nat.lt_or_ge (k + 1) n with c | c
          · exact c
          · have : n = k + 1 := by omega
            subst this
            have := hk.out (by omega)
            omega
        have hkr := kids_run hg hk hs (n - (k + 1)) (k + 1) rfl (by omega) (by omega) (Or.inr hb.2)
        have hrest := kids_rest hg hk
        have hne : (kids l (tX l) k (k + 1) (n - (k + 1))).size ≠ 0 := by
          obtain ⟨c, hc⟩ : ∃ c, n - (k + 1) = 1 + c := ⟨n - (k + 1) - 1, by omega⟩
          rw [hc, kids_add, ByteArray.size_append]
          have h1 : kids l (tX l) k (k + 1) 1 = tX l (k + 1) := kids_one hb.2 0 fun j h1 h2 => by omega
          have h2 := tX_some hg (k := k + 1) (by omega)
          rw [h1]; omega
        have hX : tX l k = headT l k ++ gtT ++ kids l (tX l) k (k + 1) (n - (k + 1)) ++ endT l k := by rw [tX_eq hkl, if_neg h0, hrest, if_neg hne]
        refine ⟨fun rs o h => ?_, ?_⟩
        · obtain ⟨⟨ex, o2, hr, he, hc⟩, _⟩ := hkr [] rs (o ++ headT l k ++ gtT) (fun x hx => by cases hx)
          refine ⟨ex ++ [k], o2, ?_, fun x hx => ?_, ?_⟩
          · rw [hf, runP]
            have e1 : stepP l k (rs, o) = (k :: rs, o ++ headT l k ++ gtT) := by
              unfold stepP
              rw [if_neg h0, if_pos (by unfold kidB; rw [decide_eq_true_eq]; exact hb), hcl rs o h]
            rw [e1, hff]
            rw [List.nil_append] at hr
            rw [hr, List.append_assoc]
            rfl
          · rcases List.mem_append.1 hx with h | h
            · have := he x h; omega
            · simp at h; omega
          · have e2 : clT l (ex ++ [k]) = clT l ex ++ endT l k := by
              have : ∀ ex : List Nat, clT l (ex ++ [k]) = clT l ex ++ endT l k := by
                intro ex
                induction ex with
                | nil => show endT l k ++ ByteArray.empty = ByteArray.empty ++ endT l k; rw [ByteArray.append_empty, ByteArray.empty_append]
                | cons x ex ih2 => show endT l x ++ clT l (ex ++ [k]) = endT l x ++ clT l ex ++ endT l k; rw [ih2, ByteArray.append_assoc]
              exact this ex
            rw [e2, ← ByteArray.append_assoc, hc, hX]
            show o ++ headT l k ++ gtT ++ ByteArray.empty ++ _ ++ endT l k = _
            rw [ByteArray.append_empty]
            simp only [ByteArray.append_assoc]
        · have h1 := (hkr [] [] ByteArray.empty (fun x hx => by cases hx)).2
          have h2 := head_size l k
          have e2 : gtT.size = 1 := rfl
          rw [hX]
          simp only [ByteArray.size_append, e2]
          omega
      · -- nothing is in it
        have hn1 : n = k + 1 := by
          rcases Nat.lt_or_ge (k + 1) n with c | c
          · exfalso
            apply hb
            unfold kidB
            rw [decide_eq_true_eq]
            have h1 := hk.ins (k + 1) (by omega) c
            have hu := ups_of l l.length (Nat.le_refl _) hg.2
            have h2 := hu (k + 1) (by omega)
            exact ⟨by omega, by omega⟩
          · omega
        subst hn1
        have hrest := kids_rest hg hk
        rw [show k + 1 - (k + 1) = 0 by omega] at hrest
        have hX : tX l k = headT l k ++ shutT := by
          rw [tX_eq hkl, if_neg h0, hrest]
          rfl
        refine ⟨fun rs o h => ⟨[], o ++ tX l k, ?_, fun x hx => (by cases hx), ?_⟩, ?_⟩
        · rw [show k + 1 - k = 1 by omega]
          show stepP l k (rs, o) = _
          unfold stepP
          rw [if_neg h0, if_neg hb, hcl rs o h, hX, ByteArray.append_assoc]
          rfl
        · show _ ++ ByteArray.empty = _; rw [ByteArray.append_empty]
        · have h2 := head_size l k
          have e2 : shutT.size = 2 := rfl
          have e3 : (endT l k).size = 3 + (nmAt l k).size := by
            have a1 : backT.size = 2 := rfl
            have a2 : gtT.size = 1 := rfl
            unfold endT
            simp only [ByteArray.size_append, a1, a2]
            omega
          rw [hX, hws]
          simp only [ByteArray.size_append, e2]
          omega
/-- What is written of all nodes, with what is still open ended, is the text of the first one. -/
theorem run_all {l : List ND} (hg : GoodP l) : (closeP l (-1) (runP l 0 l.length ([], ByteArray.empty)).1 (runP l 0 l.length ([], ByteArray.empty)).2).2 = tX l 0 ∧ (tX l 0).size ≤ wtN l l.length := by
  have hl : 0 < l.length := hg.1.1
  obtain ⟨n, hn⟩ := end_exists hl
  have hok := hg.2 0 hl
  simp only [okB, Bool.and_eq_true, decide_eq_true_eq] at hok
  have hnl : n = l.length := by
    rcases Nat.lt_or_ge n l.length with c | c
    · have h1 := hn.out c
      have h2 := hn.lt
      have hu := ups_of l l.length (Nat.le_refl _) hg.2
      obtain ⟨p, rfl⟩ : ∃ p, n = p + 1 := ⟨n - 1, by omega⟩
      have hok2 := hg.2 (p + 1) c
      simp only [okB, Bool.and_eq_true] at hok2
      have hp := hok2.2
      unfold placeB at hp
      simp only [Bool.and_eq_true] at hp
      have h3 := meetsN_le l _ l.length hu (Nat.le_refl _) (p + 1) (p : Int) (by omega) (by omega) hp.1
      omega
    · have := hn.le; omega
  subst hnl
  obtain ⟨h1, h2⟩ := sub_all hg _ 0 l.length rfl hn
  obtain ⟨ex, o', hr, _, hc⟩ := h1 [] ByteArray.empty (Or.inl ⟨rfl, hok.2⟩)
  rw [Nat.sub_zero] at hr
  refine ⟨?_, by omega⟩
  rw [hr, close_all, List.append_nil]
  rw [hc, ByteArray.empty_append]
end Go.Proofs.YtgjnemmkpbkfhaaDoor

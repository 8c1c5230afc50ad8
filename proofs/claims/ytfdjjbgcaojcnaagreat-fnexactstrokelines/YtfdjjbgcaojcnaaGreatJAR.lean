/-
  A dashing's lay and turn, by the program; each theorem names its conditions.
  Strokes: the bands of segments, by the program; each theorem names its conditions.
  Strokes: the corners of segments, by the program; each theorem names its conditions.
  A place on a side, by the program: placeOn; each theorem names its conditions.
-/
import Derived.Test.YtfdjjbgcaojcnaaGreatJAQ
import Derived.Test.YtfdjjbgcaojcnaaGreatJAO
import Derived.Test.YtfdjjbgcaojcnaaGreatJAC
import Derived.Test.YtfdjjbgcaojcnaaGreatJAJ
import Derived.Test.YtfdjjbgcaojcnaaGreatJAI
namespace Go.Proofs.YtfdjjbgcaojcnaaGreat
open Go.ChangeShapes Go.WideShapes Go.ChangeAt Go.RowKit
set_option linter.unusedVariables false

theorem under_llnsD : Tryz.prog.underlying 65 = some (.slice 25) := by kernel_rfl
theorem one_lineD {w : World} {B : Nat} {u : Value} {ld : LD} {l : List Pnt} (h : OwnP w B u l) : ∀ x ∈ flat2 (vLn [(u, ld)]), x.oneCell' = true := by
  obtain ⟨a, n, c, rfl⟩ := OwnQ.slice h
  intro x hx
  simp only [vLn, List.map_cons, List.map_nil, flat2, List.mem_cons, List.not_mem_nil, or_false] at hx
  rcases hx with rfl | rfl <;> rfl
set_option maxHeartbeats 1000000 in
/-- A line is appended to a list of lines in a variable. -/
theorem iaddLn (w : World) (b o B : Nat) (v : Value) (it : Its) (u : Value) (ld : LD) (g : Nat) (hbox : w.cell? ⟨b, o, none⟩ = some v) (hfr : w.frozen? ⟨b, o, none⟩ = false) (hown : OwnQ 25 w B v (vLn it)) (hu : OwnP w B u ld.pts)
    (h0 : w.cell? ⟨g, 0, none⟩ = some u) (h1 : w.cell? ⟨g, 1, none⟩ = some (.bool ld.closed)) (hlen : it.length + 1 ≤ 1000000) (hB : B ≤ w.heap.size) (hne : v.ownBlock ≠ some b) :
    Calls Tryz.prog 44 #[.pointer (some ⟨b, o, none⟩), .slice (some ⟨g, 0, none⟩) 1 1] w fun e w' => e = .returned (.tuple #[]) ∧ ∃ v' w1, OwnQ 25 w1 B v' (vLn (it ++ [(u, ld)])) ∧ Ext v v' w w1 ∧ w' = w1.setCell ⟨b, o, none⟩ v' := by
  have hb : b < w.heap.size := World.block_lt_of_cell? w ⟨b, o, none⟩ hbox
  obtain ⟨sa, sn, sc, rfl⟩ := OwnQ.slice hown
  have HO : Hid _ := hown
  have HI : Hid (∀ i, i < (vLn [(u, ld)]).length → w.cell? ⟨g, 0 + i * 2, none⟩ = some (vvAt (vLn [(u, ld)]) i).1 ∧ w.cell? ⟨g, 0 + i * 2 + 1, none⟩ = some (vvAt (vLn [(u, ld)]) i).2) := fun i hi => by
    have : i = 0 := by simp [vLn] at hi; omega
    subst this
    exact ⟨h0, h1⟩
  have H1 : Hid (∀ x ∈ flat2 (vLn [(u, ld)]), x.oneCell' = true) := one_lineD hu
  have HB : Hid (B ≤ w.heap.size) := hB
  have HL : Hid (it.length + 1 ≤ 1000000) := hlen
  have HE : Hid ((Value.slice sa sn sc).ownBlock ≠ some b) := hne
  clear hown hu hB hlen hne h0 h1
  go_enter Tryz.func44, Tryz.ntmps44
  go_wp2_with (at_builtin; (refine wpl_q 25 65 29 (.slice none 0 0) (.bool false) 32 under_llnsD under_lns info_line (by decide) rfl w (.tmp 7) (.tmp 8) rfl B (.slice sa sn sc) (vLn it) (vLn [(u, ld)]) rfl HO.out g 0 1 1 rfl rfl HI.out H1.out (by rw [vLn_len]; simp) ?cl HB.out rfl ?_))
  case cl => rw [vLn_len, vLn_len]; have := HL.out; simp; omega
  intro g' c' w1 h2 h3
  rw [← vLn_append] at h2
  rw [vLn_len] at h2 h3 ⊢
  have y0 : w1.cell? ⟨b, o, none⟩ = some (.slice sa sn sc) := (Ext.cell h3 hb HE.out o).trans hbox
  have y1 : w1.frozen? ⟨b, o, none⟩ = false := (World.frozen?_of_block (w := w) (a := ⟨b, o, none⟩) (h3.1.block b hb (fun e => HE.out e.symm))).trans hfr
  have H2 : Hid _ := h2
  have H3 : Hid _ := h3
  clear h2 h3 hbox hfr
  go_wp2
  go_end0
  exact ⟨rfl, _, w1, H2.out, H3.out, rfl⟩
set_option maxRecDepth 100000 in
set_option maxHeartbeats 4000000 in
/-- A dash is laid down. -/
theorem ilay (w0 w : World) (bx : Nat) (K : List (Nat × Int × Int)) (na : Option Addr) (nc : Nat) (ns : List Int) (d : Dg) (hb0 : w0.heap.size ≤ bx) (hol : d.o.length ≤ 100000) (h : DhS bx w0 w K na nc ns d) :
    Calls Tryz.prog 34 #[.pointer (some ⟨bx, 0, none⟩)] w fun e w' => e = .returned (.tuple #[]) ∧ DhS bx w0 w' K na nc ns (layD d) := by
  obtain ⟨v, it, u, hd, ho, hw, hkb⟩ := h
  obtain ⟨at', left, begun, p, o⟩ := d
  simp only at hd ho hol
  have HOL : Hid (it.length ≤ 100000) := by show _ ≤ _; rw [← ho, List.length_map] at hol; exact hol
  have HO : Hid (it.map (·.2) = o) := ho
  obtain ⟨ua, uc, hu⟩ := D2.val hd.d
  subst hu
  have HD : Hid (DH bx w (.slice na ns.length nc) at' left begun v it (.slice ua p.length uc) p) := hd
  have HW : Hid (Nw w0 w) := hw
  have HKB : Hid (Kb bx w v it (.slice ua p.length uc) K) := hkb
  have HLD : Hid (layD ⟨at', left, begun, p, o⟩ = ⟨at', left, begun, [], endL o p false⟩) := rfl
  have c4 := hd.c4
  have fr := hd.free
  clear hkb hd ho hw hol
  generalize hnp : p.length = np at *
  have HNP : Hid (p.length = np) := hnp
  generalize hnn : ns.length = n at *
  have HN : Hid (ns.length = n) := hnn
  clear hnp hnn
  by_cases h1 : 1 < np
  · have d1 : decide ((1 : Int) < (np : Int)) = true := by simp; omega
    have HEL : Hid ((it ++ [(Value.slice ua np uc, (⟨p, false⟩ : LD))]).map (·.2) = endL o p false) := by
      show _ = _
      unfold endL
      rw [HNP.out, if_pos h1, ← HO.out]
      simp
    have n0 : Nw w w.drew := (Below.refl _ _).drew
    have n1 : Nw w.drew (w.drew.alloc (.cells #[.slice ua np uc, .bool false] 25)) := (Below.refl _ _).alloc (Nat.le_refl _) _
    have D1 : Hid _ := DH.nw HD.out (Nw.trans n0 n1)
    have KB1 : Hid (Kb bx (w.drew.alloc (.cells #[.slice ua np uc, .bool false] 25)) v it (.slice ua np uc) K) := Kb.nw HKB.out (Nw.trans n0 n1)
    have N1 : Hid (Nw w0 (w.drew.alloc (.cells #[.slice ua np uc, .bool false] 25))) := Nw.trans HW.out (Nw.trans n0 n1)
    have HA : Hid (Calls Tryz.prog 44 #[.pointer (some ⟨bx, 5, none⟩), .slice (some ⟨w.drew.heap.size, 0, none⟩) 1 1] (w.drew.alloc (.cells #[.slice ua np uc, .bool false] 25)) fun e w' => e = .returned (.tuple #[]) ∧ ∃ v' w2, OwnQ 25 w2 (bx + 1) v' (vLn (it ++ [(.slice ua np uc, ⟨p, false⟩)])) ∧ Ext v v' (w.drew.alloc (.cells #[.slice ua np uc, .bool false] 25)) w2 ∧ w' = w2.setCell ⟨bx, 5, none⟩ v') :=
      iaddLn _ bx 5 (bx + 1) v it (.slice ua np uc) ⟨p, false⟩ w.drew.heap.size D1.out.c5 (D1.out.free 5) D1.out.d.ln.own D1.out.d.pt (by rw [World.cell?_alloc_at _ _ _ _ rfl]; rfl) (by rw [World.cell?_alloc_at _ _ _ _ rfl]; rfl) (by have := HOL.out; omega) (by have := D1.out.lt; omega) D1.out.nev
    have C4 : Hid (w.drew.cell? ⟨bx, 4, none⟩ = some (.slice ua np uc)) := (DH.nw HD.out n0).c4
    clear n0 n1 h1
    go_enter Tryz.func34, Tryz.ntmps34
    go_wp2
    refine reg_change (ops' := opsOf 1 Tryz.f34) (by kernel_rfl) ?_
    refine LYR.run ⟨bx, ua, np, uc, fun w' => ∃ v' w2, OwnQ 25 w2 (bx + 1) v' (vLn (it ++ [(.slice ua np uc, ⟨p, false⟩)])) ∧ Ext v v' (w.drew.alloc (.cells #[.slice ua np uc, .bool false] 25)) w2 ∧ w' = w2.setCell ⟨bx, 5, none⟩ v', w.drew, _⟩ ⟨C4.out, HA.out, rfl, rfl⟩ w rfl ?_
    rintro γ w9 ⟨v', w2, o2, x2, hw9⟩
    obtain ⟨p1, p2⟩ := DH.lput D1.out x2 o2
    have s4 : w9.cell? ⟨bx, 4, none⟩ = some (.slice ua np uc) := by
      rw [hw9, World.cell?_setCell_other _ _ _ _ (fun e => by injection e; omega)]
      exact (Ext.cell x2 D1.out.lt D1.out.nev 4).trans D1.out.c4
    have sf : ∀ o, w9.frozen? ⟨bx, o, none⟩ = false := fun o => by
      rw [hw9, World.frozen?_setCell]
      exact (World.frozen?_of_block (a := ⟨bx, o, none⟩) (x2.1.block bx D1.out.lt (fun e => D1.out.nev e.symm))).trans (D1.out.free o)
    rw [← hw9] at p1 p2
    have P1 : Hid _ := p1
    have P2 : Hid (Nw w0 (w9.setCell ⟨bx, 4, none⟩ (.slice none 0 0))) := Below.trans N1.out (Below.mono p2 hb0)
    have P3 : Hid (Kb bx (w9.setCell ⟨bx, 4, none⟩ (.slice none 0 0)) v' (it ++ [(.slice ua np uc, ⟨p, false⟩)]) (.slice none 0 0) K) := by
      show Kb _ _ _ _ _ _
      rw [hw9]
      exact Kb.drop (Kb.set (Kb.set (Kb.lput KB1.out x2) 5 _) 4 _)
    clear p1 p2 o2 x2 hw9 c4 fr
    simp only [Act.put, List.setIfInBounds_toArray, List.set_cons_zero, List.set_cons_succ]
    generalize γ 0 = z0 at *
    generalize γ 1 = z1 at *
    go_wp2
    go_end0
    refine ⟨rfl, ?_⟩
    rw [HLD.out]
    exact DhS.of (d := ⟨at', left, begun, [], endL o p false⟩) (by rw [HN.out]; exact P1.out) HEL.out P2.out rfl rfl rfl rfl P3.out
  · have d1 : decide ((1 : Int) < (np : Int)) = false := by simp; omega
    have HEL : Hid (it.map (·.2) = endL o p false) := by show _ = _; unfold endL; rw [HNP.out, if_neg h1]; exact HO.out
    have HP : Hid _ := DH.drop HD.out
    clear h1
    go_enter Tryz.func34, Tryz.ntmps34
    go_wp2
    go_end0
    refine ⟨rfl, ?_⟩
    rw [HLD.out]
    exact DhS.of (d := ⟨at', left, begun, [], endL o p false⟩) (by rw [HN.out]; exact HP.out.1) HEL.out (Below.trans HW.out (Below.mono HP.out.2 hb0)) rfl rfl rfl rfl (Kb.drop (Kb.set HKB.out 4 _))
theorem rD_bd (d : Dg) (q : Pnt) : (reachD d q).p.length ≤ d.p.length + 1 ∧ (reachD d q).o = d.o ∧ (reachD d q).at' = d.at' ∧ (reachD d q).begun = d.begun ∧ (reachD d q).left = d.left := by
  unfold reachD
  split
  · exact ⟨by omega, rfl, rfl, rfl, rfl⟩
  · exact ⟨by simp, rfl, rfl, rfl, rfl⟩
set_option maxRecDepth 100000 in
set_option maxHeartbeats 4000000 in
/-- The next number begins. -/
theorem iturn (w0 w : World) (bx : Nat) (K : List (Nat × Int × Int)) (na : Option Addr) (nc : Nat) (ns : List Int) (d : Dg) (x y : Int) (hb0 : w0.heap.size ≤ bx) (hn : 0 < ns.length) (ha : d.at' ≤ 100000) (hbe : d.begun ≤ 100000) (hp : d.p.length ≤ 50000) (hol : d.o.length ≤ 50000) (hI : Ints w0 na ns) (h : DhS bx w0 w K na nc ns d) :
    Calls Tryz.prog 63 #[.pointer (some ⟨bx, 0, none⟩), .agg #[.int .i64 x, .int .i64 y]] w fun e w' => e = .returned (.tuple #[]) ∧ DhS bx w0 w' K na nc ns (turnD ns d (x, y)) := by
  obtain ⟨b1, b2, b3, b4, b5⟩ := rD_bd d (x, y)
  have HT : Hid (turnD ns d (x, y) = reachD (moreD (nextD ns (layD (reachD d (x, y))))) (x, y)) := rfl
  obtain ⟨W1, hW1⟩ : ∃ W1, w.alloc (.cells #[.int .i64 x, .int .i64 y] 34) = W1 := ⟨_, rfl⟩
  have h1 := DhS.box h x y 34
  rw [hW1] at h1
  obtain ⟨bq, hbq⟩ : ∃ bq, w.heap.size = bq := ⟨_, rfl⟩
  rw [hbq] at h1
  have H1 : Hid (DhS bx w0 W1 ((bq, x, y) :: K) na nc ns d) := h1
  have HW1 : Hid (_ = W1) := hW1
  have HBQ : Hid (w.heap.size = bq) := hbq
  have HI : Hid (Ints w0 na ns) := hI
  have HB : Hid ((reachD d (x, y)).p.length ≤ d.p.length + 1 ∧ (reachD d (x, y)).o = d.o ∧ (reachD d (x, y)).at' = d.at' ∧ (reachD d (x, y)).begun = d.begun ∧ (reachD d (x, y)).left = d.left) := ⟨b1, b2, b3, b4, b5⟩
  clear b1 b2 b3 b4 b5 h h1 hW1 hbq hI
  go_enter Tryz.func63, Tryz.ntmps63
  go_wp2_with fail
  rw [HW1.out, HBQ.out]
  refine Calls.mono (ireach w0 W1 bx _ na nc ns d x y hb0 (by omega) H1.out) ?_
  rintro e w2 ⟨rfl, h2⟩
  have H2 : Hid (DhS bx w0 w2 ((bq, x, y) :: K) na nc ns (reachD d (x, y))) := h2
  clear h2
  go_wp2_with fail
  refine Calls.mono (ilay w0 w2 bx _ na nc ns (reachD d (x, y)) hb0 (by rw [HB.out.2.1]; omega) H2.out) ?_
  rintro e w3 ⟨rfl, h3⟩
  have H3 : Hid (DhS bx w0 w3 ((bq, x, y) :: K) na nc ns (layD (reachD d (x, y)))) := h3
  clear h3
  go_wp2_with fail
  refine Calls.mono (inext w0 w3 bx _ na nc ns (layD (reachD d (x, y))) hb0 hn (by show (reachD d (x, y)).at' ≤ 1000000; rw [HB.out.2.2.1]; omega) HI.out H3.out) ?_
  rintro e w4 ⟨rfl, v4, it4, u4, d4, o4, n4, k4⟩
  have c3 := d4.c3
  have fr := d4.free
  have hbg : (nextD ns (layD (reachD d (x, y)))).begun = d.begun := HB.out.2.2.2.1
  rw [hbg] at c3
  obtain ⟨s1, s2⟩ := DH.setB d4 ((d.begun : Int) + 1)
  have H5 : Hid (DhS bx w0 (w4.setCell ⟨bx, 3, none⟩ (.int .i64 ((d.begun : Int) + 1))) ((bq, x, y) :: K) na nc ns (moreD (nextD ns (layD (reachD d (x, y)))))) :=
    DhS.of s1 o4 (Below.trans n4 (Below.mono s2 hb0)) rfl rfl (by show _ = ((_ + 1 : Nat) : Int); rw [hbg]; simp) rfl (Kb.set k4 3 _)
  obtain ⟨q0, q1⟩ := DhS.at H5.out (b := bq) (x := x) (y := y) (List.mem_cons_self ..)
  clear d4 o4 n4 k4 s1 s2
  go_wp2_with fail
  refine Calls.mono (ireach w0 _ bx _ na nc ns (moreD (nextD ns (layD (reachD d (x, y))))) x y hb0 (by show ([] : List Pnt).length ≤ _; simp) H5.out) ?_
  rintro e w6 ⟨rfl, h6⟩
  have H6 : Hid _ := h6
  clear h6 c3 fr q0 q1
  go_wp2
  go_end0
  exact ⟨rfl, by rw [HT.out]; exact DhS.sub H6.out (fun k hk => List.mem_cons_of_mem _ hk)⟩
end Go.Proofs.YtfdjjbgcaojcnaaGreat
namespace Go.Proofs.YtfdjjbgcaojcnaaGreat
open Go.ChangeShapes Go.WideShapes Go.ChangeAt Go.RowKit
set_option linter.unusedVariables false

/-- One line more, out of a literal. -/
theorem wpl_ln {ops : Array Oper} {rest : List Oper} {o : Oper} {a : Act} {Q : Exit → Act → World → Prop} (wS w : World) (hgd : o.guard = none) (s x : Operand)
    (ho : o.op = .call { callee := .builtin .append, args := #[s, x], argTypes := #[29, 29] }) (B : Nat) (v : Value) (it : Its) (u : Value) (ld : LD) (hs : a.eval s = v) (h : OwnLn wS B v it) (k : Nw wS w) (hB : B ≤ wS.heap.size) (hu : OwnP w wS.heap.size u ld.pts)
    (hx : a.eval x = .slice (some ⟨w.heap.size, 0, none⟩) 1 1) (hl : it.length + 1 ≤ 1000000)
    (hc : ∀ g' c' w', OwnLn w' B (.slice (some ⟨g', 0, none⟩) (it.length + 1) c') (it ++ [(u, ld)]) → Below B wS w' → wpList Tryz.prog ops Q rest (a.put o.dst (.slice (some ⟨g', 0, none⟩) (it.length + 1) c')) w') : wpList Tryz.prog ops Q (o :: rest) a (w.alloc (.cells #[u, .bool ld.closed] 25)) := by
  have n1 : Nw w (w.alloc (.cells #[u, .bool ld.closed] 25)) := (Below.refl _ _).alloc (Nat.le_refl _) _
  have hsz := Below.size k
  refine wpl_q 25 29 29 (.slice none 0 0) (.bool false) 32 under_lns under_lns info_line (by decide) rfl _ s x ho B v (vLn it) (vLn [(u, ld)]) hs (OwnQ.nw h.own (Nw.trans k n1)) w.heap.size 0 1 1 rfl hx (fun i hi => ?_) (one_lineD hu) (by rw [vLn_len]; simp) (by rw [vLn_len, vLn_len]; simp; omega) (by simp; omega) hgd ?_
  · have : i = 0 := by simp [vLn] at hi; omega
    subst this
    exact ⟨by simp [vLn, vvAt], by simp [vLn, vvAt]⟩
  · intro g' c' w' h2 h3
    rw [← vLn_append] at h2
    rw [vLn_len] at h2 h3 ⊢
    refine hc g' c' w' (OwnLn.put h (Nw.trans k n1) hB (OwnP.nw hu n1) h2 h3) ?_
    exact Below.trans (Below.mono (Nw.trans k n1) hB) (Ext.below h3 (fun g hg => (OwnQ.lt h.own g hg).1) (by simp; omega))
def bandL (x : Sg) : LD := ⟨[(x.f.1 + x.s.1, x.f.2 + x.s.2), (x.t.1 + x.s.1, x.t.2 + x.s.2), (x.t.1 - x.s.1, x.t.2 - x.s.2), (x.f.1 - x.s.1, x.f.2 - x.s.2)], true⟩
def wpt (p : Pnt) : Prop := wid p.1 ∧ wid p.2
def wsg (x : Sg) : Prop := wpt x.f ∧ wpt x.t ∧ wpt x.s
set_option maxRecDepth 100000 in
set_option maxHeartbeats 4000000 in
theorem ibands (w : World) (a : Option Addr) (c : Nat) (l : List Sg) (hl : l.length ≤ 900000) (hg : ∀ i, i < l.length → wsg (sgAt l i)) (hr : Sgs w a l) :
    Calls Tryz.prog 72 #[.slice a l.length c] w fun e w' => ∃ v, e = .returned v ∧ LsOk w' w.heap.size v (l.map bandL) ∧ Nw w w' := by
  have HS : Hid (∀ k, k < l.length → (l.take (k + 1)).map bandL = (l.take k).map bandL ++ [bandL (sgAt l k)]) := fun k hk => by
    rw [List.take_add_one, List.getElem?_eq_getElem hk, List.map_append]
    simp [sgAt, hk]
  have H0 : Hid ((l.take 0).map bandL = []) := by show _ = _; simp
  have HT : Hid ((l.take l.length).map bandL = l.map bandL) := by show _ = _; rw [List.take_length]
  have HL : Hid (∀ k, k ≤ l.length → ((l.take k).map bandL).length = k) := fun k hk => by simp; omega
  have HR : Hid (Sgs w a l) := hr
  have HG : Hid _ := hg
  clear hr hg
  obtain ⟨R, hR⟩ : ∃ R, l.map bandL = R := ⟨_, rfl⟩
  obtain ⟨G, hG⟩ : ∃ G : Nat → List LD, (fun k => (l.take k).map bandL) = G := ⟨_, rfl⟩
  have hG' : ∀ k, (l.take k).map bandL = G k := fun k => congrFun hG k
  simp only [hG', hR] at HS H0 HT HL
  rw [hR]
  clear hG hG' hR
  obtain ⟨n, hn⟩ : ∃ n, l.length = n := ⟨_, rfl⟩
  have HN : Hid (l.length = n) := hn
  rw [hn] at HS HT HL HG hl ⊢
  clear hn
  go_enter Tryz.func72, Tryz.ntmps72
  go_wp2
  go_loopw [8, 3] (fun i v wr => ∃ (k : Nat) (it : Its), k ≤ n ∧ i = .int .i64 (k : Int) ∧ OwnLn wr w.heap.size v it ∧ it.map (·.2) = G k ∧ Nw w wr) (fun i _ _ => n - (intOf i).toNat)
  case atStart => exact ⟨0, [], Nat.zero_le _, rfl, OwnLn.nil _ _, by rw [H0.out]; rfl, Below.refl _ _⟩
  case round =>
    obtain ⟨k, it, hk, rfl, ho, he, hw⟩ := hrel
    have HE : Hid (it.map (·.2) = G k) := he
    have HO : Hid (OwnLn wr w.heap.size _ it) := ho
    have HW : Hid (Nw w wr) := hw
    have hil : it.length = k := by have := HL.out k hk; rw [← he, List.length_map] at this; exact this
    obtain ⟨va, vn, vc, hv⟩ := OwnQ.slice ho.own
    subst hv
    clear ho hw he
    by_cases hlt : k < n
    · have d1 : decide ((k : Int) < (n : Int)) = true := by simp; omega
      rcases (Sgs.nw HR.out HW.out) with h0 | ⟨b, rfl, hc⟩
      · have := HN.out; rw [h0] at this; simp at this; omega
      have hck := hc k (by rw [HN.out]; exact hlt)
      have HX : Hid _ := HS.out k hlt
      have HGk : Hid (wsg (sgAt l k)) := HG.out k hlt
      clear hc
      generalize sgAt l k = X at *
      obtain ⟨⟨fx, fy⟩, ⟨tx, ty⟩, ⟨sx, sy⟩⟩ := X
      have q0 := hck 0 _ rfl
      have q1 := hck 1 _ rfl
      have q2 := hck 2 _ rfl
      have q3 := hck 3 _ rfl
      have q4 := hck 4 _ rfl
      have q5 := hck 5 _ rfl
      simp only [Nat.add_zero] at q0 q1 q2 q3 q4 q5
      clear hck
      have HB : Hid _ := iband fx fy tx ty sx sy HGk.out.1.1 HGk.out.1.2 HGk.out.2.1.1 HGk.out.2.1.2 HGk.out.2.2.1 HGk.out.2.2.2
      go_wp2_with fail
      refine Calls.mono (HB.out _) ?_
      rintro e w1 ⟨v1, rfl, o1, n1⟩
      have N1 : Hid (Nw wr w1) := Nw.trans (Kp.nw ((Kp.refl wr).alloc _ _)) n1
      have O1 : Hid (OwnP w1 wr.heap.size v1 _) := OwnQ.base o1 (by simp)
      obtain ⟨ua, uc, hu, _⟩ := o1.pts
      subst hu
      clear o1 n1 q0 q1 q2 q3 q4 q5
      go_wp2_with (at_builtin; (refine wpl_ln wr w1 rfl (.tmp 12) (.tmp 15) rfl w.heap.size (.slice va vn vc) it _ (bandL ⟨(fx, fy), (tx, ty), (sx, sy)⟩) rfl HO.out N1.out ?hB O1.out ?hx ?hl ?_))
      case hB => exact Below.size HW.out
      case hx => rfl
      case hl => omega
      intro g' c' w9 h2 h3
      have H2 : Hid _ := h2
      have N9 : Hid (Nw w w9) := Below.trans HW.out h3
      clear h2 h3
      go_wp2
      go_roundw
      case rel => exact ⟨k + 1, _, hlt, by go_num, H2.out, by rw [HX.out, List.map_append, HE.out]; rfl, N9.out⟩
      case measure => simp [intOf]; omega
    · obtain rfl : k = n := by omega
      have d1 : decide ((k : Int) < (k : Int)) = false := by simp
      go_wp2
      go_ret
      exact ⟨_, rfl, LsOk.of HO.out (HE.out.trans HT.out), HW.out⟩
end Go.Proofs.YtfdjjbgcaojcnaaGreat
namespace Go.Proofs.YtfdjjbgcaojcnaaGreat
open Go.ChangeShapes Go.WideShapes Go.ChangeAt Go.RowKit
set_option linter.unusedVariables false

/-- What is laid at the corners ahead of segment k. -/
def cornsK (J : Sg → Sg → List Pnt) (l : List Sg) (cl : Bool) : Nat → List LD
  | 0 => []
  | k + 1 => cornsK J l cl k ++ (if k = 0 ∧ cl = false then [] else [⟨J (sgAt l ((k + l.length - 1) % l.length)) (sgAt l k), true⟩])
theorem cornsK_len (J : Sg → Sg → List Pnt) (l : List Sg) (cl : Bool) (k : Nat) : (cornsK J l cl k).length ≤ k := by
  induction k with
  | zero => simp [cornsK]
  | succ k ih =>
    unfold cornsK
    rw [List.length_append]
    split <;> simp <;> omega
set_option maxRecDepth 100000 in
set_option maxHeartbeats 8000000 in
theorem icornersR (w : World) (a : Option Addr) (c : Nat) (l : List Sg) (cl : Bool) (h : Int) (J : Sg → Sg → List Pnt) (hl : l.length ≤ 900000) (hr : Sgs w a l)
    (hJ : ∀ i j, i < l.length → j < l.length → RingSays 91 #[cnV (sgAt l i).f.1 (sgAt l i).f.2 (sgAt l i).t.1 (sgAt l i).t.2 (sgAt l i).s.1 (sgAt l i).s.2 (sgAt l j).f.1 (sgAt l j).f.2 (sgAt l j).t.1 (sgAt l j).t.2 (sgAt l j).s.1 (sgAt l j).s.2 h] (J (sgAt l i) (sgAt l j))) :
    Calls Tryz.prog 73 #[.slice a l.length c, .bool cl, .int .i64 h, .func (.func 91) #[] #[]] w fun e w' => ∃ v, e = .returned v ∧ LsOk w' w.heap.size v (cornsK J l cl l.length) ∧ Nw w w' := by
  have HS : Hid (∀ k, ¬ (k = 0 ∧ cl = false) → cornsK J l cl (k + 1) = cornsK J l cl k ++ [⟨J (sgAt l ((k + l.length - 1) % l.length)) (sgAt l k), true⟩]) := fun k hk => by
    rw [cornsK, if_neg hk]
  have HZ : Hid (cl = false → cornsK J l cl (0 + 1) = cornsK J l cl 0) := fun hk => by
    show cornsK J l cl 0 ++ (if 0 = 0 ∧ cl = false then [] else _) = _
    rw [if_pos ⟨rfl, hk⟩, List.append_nil]
  have H0 : Hid (cornsK J l cl 0 = []) := rfl
  have HL : Hid (∀ k, (cornsK J l cl k).length ≤ k) := cornsK_len J l cl
  have HR : Hid (Sgs w a l) := hr
  have HJJ : Hid _ := hJ
  clear hr hJ
  obtain ⟨G, hG⟩ : ∃ G, cornsK J l cl = G := ⟨_, rfl⟩
  rw [hG] at HS HZ H0 HL ⊢
  clear hG
  obtain ⟨n, hn⟩ : ∃ n, l.length = n := ⟨_, rfl⟩
  have HN : Hid (l.length = n) := hn
  rw [hn] at HS HJJ hl ⊢
  clear hn
  go_enter Tryz.func73, Tryz.ntmps73
  go_wp2
  go_loopw [15, 9] (fun i v wr => ∃ (k : Nat) (it : Its), k ≤ n ∧ i = .int .i64 (k : Int) ∧ OwnLn wr w.heap.size v it ∧ it.map (·.2) = G k ∧ Nw w wr) (fun i _ _ => n - (intOf i).toNat)
  case atStart => exact ⟨0, [], Nat.zero_le _, rfl, OwnLn.nil _ _, by rw [H0.out]; rfl, Below.refl _ _⟩
  case round =>
    obtain ⟨k, it, hk, rfl, ho, he, hw⟩ := hrel
    have HE : Hid (it.map (·.2) = G k) := he
    have HO : Hid (OwnLn wr w.heap.size _ it) := ho
    have HW : Hid (Nw w wr) := hw
    have hil : it.length ≤ k := by have := HL.out k; rw [← he, List.length_map] at this; exact this
    obtain ⟨va, vn, vc, hv⟩ := OwnQ.slice ho.own
    subst hv
    clear ho hw he
    by_cases hlt : k < n
    · have d1 : decide ((k : Int) < (n : Int)) = true := by simp; omega
      obtain ⟨m, hm⟩ : ∃ m, (k + n - 1) % n = m := ⟨_, rfl⟩
      have hmn : m < n := by rw [← hm]; exact Nat.mod_lt _ (by omega)
      have hrm : ((k : Int) + (n : Int) - 1).tmod (n : Int) = (m : Int) := by
        rw [← hm, Int.tmod_eq_emod_of_nonneg (by omega), show (k : Int) + (n : Int) - 1 = ((k + n - 1 : Nat) : Int) by omega]
        first | exact (Int.natCast_emod (k + n - 1) n).symm | rfl
      rcases (Sgs.nw HR.out HW.out) with h0 | ⟨b, rfl, hc⟩
      · have := HN.out; rw [h0] at this; simp at this; omega
      have hck := hc k (by rw [HN.out]; exact hlt)
      have hcm := hc m (by rw [HN.out]; exact hmn)
      have HJ : Hid _ := HJJ.out m k hmn hlt
      have HSk := HS.out k
      rw [hm] at HSk
      have hmz : k = 0 → (-1 : Int) % (n : Int) = (m : Int) := fun hz => by
        subst hz
        rw [Int.tmod_eq_emod_of_nonneg (by omega)] at hrm
        rw [← hrm]
        simp
      clear hc hm HS HJJ
      generalize sgAt l k = X at *
      generalize sgAt l m = Y at *
      obtain ⟨⟨bfx, bfy⟩, ⟨btx, bty⟩, ⟨bsx, bsy⟩⟩ := X
      obtain ⟨⟨afx, afy⟩, ⟨atx, aty⟩, ⟨asx, asy⟩⟩ := Y
      have q0 := hck 0 _ rfl
      have q1 := hck 1 _ rfl
      have q2 := hck 2 _ rfl
      have q3 := hck 3 _ rfl
      have q4 := hck 4 _ rfl
      have q5 := hck 5 _ rfl
      have p0 := hcm 0 _ rfl
      have p1 := hcm 1 _ rfl
      have p2 := hcm 2 _ rfl
      have p3 := hcm 3 _ rfl
      have p4 := hcm 4 _ rfl
      have p5 := hcm 5 _ rfl
      simp only [Nat.add_zero] at q0 q1 q2 q3 q4 q5 p0 p1 p2 p3 p4 p5
      simp only at HJ
      have hb : b < wr.heap.size := World.block_lt_of_cell? wr ⟨b, _, none⟩ q0
      clear hck hcm
      by_cases hz : k = 0 ∧ cl = false
      · obtain ⟨rfl, rfl⟩ := hz
        go_wp2
        go_roundw
        case rel => exact ⟨0 + 1, it, hlt, by go_num, OwnLn.nw HO.out (Kp.nw ((Kp.refl wr).alloc _ _)), by rw [HZ.out rfl]; exact HE.out, Nw.trans HW.out (Kp.nw ((Kp.refl wr).alloc _ _))⟩
        case measure => simp [intOf]; omega
      · have HX : Hid _ := HSk hz
        clear HSk
        by_cases hk0 : k = 0
        · subst hk0
          have hcl : cl = true := by cases cl with | true => rfl | false => exact absurd ⟨rfl, rfl⟩ hz
          subst hcl
          have hmy := hmz rfl
          clear hz hmz hrm
          go_upto_region 6 with fail
          go_wp2_with fail
          refine Calls.mono (HJ.out _) ?_
          rintro e w1 ⟨v1, rfl, o1, n1⟩
          have N1 : Hid (Nw wr w1) := Nw.trans (Kp.nw (((Kp.refl wr).alloc _ _).alloc _ _)) n1
          have O1 : Hid (OwnP w1 wr.heap.size v1 _) := OwnQ.base o1 (by simp; omega)
          obtain ⟨ua, uc, hu, _⟩ := o1.pts
          subst hu
          clear o1 n1 q0 q1 q2 q3 q4 q5 p0 p1 p2 p3 p4 p5
          go_wp2_with (at_builtin; (refine wpl_ln wr w1 rfl (.tmp 37) (.tmp 44) rfl w.heap.size (.slice va vn vc) it _ ⟨J ⟨(afx, afy), (atx, aty), (asx, asy)⟩ ⟨(bfx, bfy), (btx, bty), (bsx, bsy)⟩, true⟩ rfl HO.out N1.out ?hB O1.out ?hx ?hl ?_))
          case hB => exact Below.size HW.out
          case hx => rfl
          case hl => omega
          intro g' c' w9 h2 h3
          have H2 : Hid _ := h2
          have N9 : Hid (Nw w w9) := Below.trans HW.out h3
          clear h2 h3
          go_wp2
          go_roundw
          case rel => exact ⟨0 + 1, _, hlt, by go_num, H2.out, by rw [HX.out, List.map_append, HE.out]; rfl, N9.out⟩
          case measure => simp [intOf]; omega
        · have d2 : ((k : Int) == 0) = false := by simp; omega
          clear hz
          go_wp2_with fail
          refine Calls.mono (HJ.out _) ?_
          rintro e w1 ⟨v1, rfl, o1, n1⟩
          have N1 : Hid (Nw wr w1) := Nw.trans (Kp.nw (((Kp.refl wr).alloc _ _).alloc _ _)) n1
          have O1 : Hid (OwnP w1 wr.heap.size v1 _) := OwnQ.base o1 (by simp; omega)
          obtain ⟨ua, uc, hu, _⟩ := o1.pts
          subst hu
          clear o1 n1 q0 q1 q2 q3 q4 q5 p0 p1 p2 p3 p4 p5
          go_wp2_with (at_builtin; (refine wpl_ln wr w1 rfl (.tmp 37) (.tmp 44) rfl w.heap.size (.slice va vn vc) it _ ⟨J ⟨(afx, afy), (atx, aty), (asx, asy)⟩ ⟨(bfx, bfy), (btx, bty), (bsx, bsy)⟩, true⟩ rfl HO.out N1.out ?hB O1.out ?hx ?hl ?_))
          case hB => exact Below.size HW.out
          case hx => rfl
          case hl => omega
          intro g' c' w9 h2 h3
          have H2 : Hid _ := h2
          have N9 : Hid (Nw w w9) := Below.trans HW.out h3
          clear h2 h3
          go_wp2
          go_roundw
          case rel => exact ⟨k + 1, _, hlt, by go_num, H2.out, by rw [HX.out, List.map_append, HE.out]; rfl, N9.out⟩
          case measure => simp [intOf]; omega
    · obtain rfl : k = n := by omega
      have d1 : decide ((k : Int) < (k : Int)) = false := by simp
      go_wp2
      go_ret
      exact ⟨_, rfl, LsOk.of HO.out HE.out, HW.out⟩
set_option maxRecDepth 100000 in
set_option maxHeartbeats 8000000 in
theorem icornersB (w : World) (a : Option Addr) (c : Nat) (l : List Sg) (cl : Bool) (h : Int) (J : Sg → Sg → List Pnt) (hl : l.length ≤ 900000) (hr : Sgs w a l)
    (hJ : ∀ i j, i < l.length → j < l.length → RingSays 92 #[cnV (sgAt l i).f.1 (sgAt l i).f.2 (sgAt l i).t.1 (sgAt l i).t.2 (sgAt l i).s.1 (sgAt l i).s.2 (sgAt l j).f.1 (sgAt l j).f.2 (sgAt l j).t.1 (sgAt l j).t.2 (sgAt l j).s.1 (sgAt l j).s.2 h] (J (sgAt l i) (sgAt l j))) :
    Calls Tryz.prog 73 #[.slice a l.length c, .bool cl, .int .i64 h, .func (.func 92) #[] #[]] w fun e w' => ∃ v, e = .returned v ∧ LsOk w' w.heap.size v (cornsK J l cl l.length) ∧ Nw w w' := by
  have HS : Hid (∀ k, ¬ (k = 0 ∧ cl = false) → cornsK J l cl (k + 1) = cornsK J l cl k ++ [⟨J (sgAt l ((k + l.length - 1) % l.length)) (sgAt l k), true⟩]) := fun k hk => by
    rw [cornsK, if_neg hk]
  have HZ : Hid (cl = false → cornsK J l cl (0 + 1) = cornsK J l cl 0) := fun hk => by
    show cornsK J l cl 0 ++ (if 0 = 0 ∧ cl = false then [] else _) = _
    rw [if_pos ⟨rfl, hk⟩, List.append_nil]
  have H0 : Hid (cornsK J l cl 0 = []) := rfl
  have HL : Hid (∀ k, (cornsK J l cl k).length ≤ k) := cornsK_len J l cl
  have HR : Hid (Sgs w a l) := hr
  have HJJ : Hid _ := hJ
  clear hr hJ
  obtain ⟨G, hG⟩ : ∃ G, cornsK J l cl = G := ⟨_, rfl⟩
  rw [hG] at HS HZ H0 HL ⊢
  clear hG
  obtain ⟨n, hn⟩ : ∃ n, l.length = n := ⟨_, rfl⟩
  have HN : Hid (l.length = n) := hn
  rw [hn] at HS HJJ hl ⊢
  clear hn
  go_enter Tryz.func73, Tryz.ntmps73
  go_wp2
  go_loopw [15, 9] (fun i v wr => ∃ (k : Nat) (it : Its), k ≤ n ∧ i = .int .i64 (k : Int) ∧ OwnLn wr w.heap.size v it ∧ it.map (·.2) = G k ∧ Nw w wr) (fun i _ _ => n - (intOf i).toNat)
  case atStart => exact ⟨0, [], Nat.zero_le _, rfl, OwnLn.nil _ _, by rw [H0.out]; rfl, Below.refl _ _⟩
  case round =>
    obtain ⟨k, it, hk, rfl, ho, he, hw⟩ := hrel
    have HE : Hid (it.map (·.2) = G k) := he
    have HO : Hid (OwnLn wr w.heap.size _ it) := ho
    have HW : Hid (Nw w wr) := hw
    have hil : it.length ≤ k := by have := HL.out k; rw [← he, List.length_map] at this; exact this
    obtain ⟨va, vn, vc, hv⟩ := OwnQ.slice ho.own
    subst hv
    clear ho hw he
    by_cases hlt : k < n
    · have d1 : decide ((k : Int) < (n : Int)) = true := by simp; omega
      obtain ⟨m, hm⟩ : ∃ m, (k + n - 1) % n = m := ⟨_, rfl⟩
      have hmn : m < n := by rw [← hm]; exact Nat.mod_lt _ (by omega)
      have hrm : ((k : Int) + (n : Int) - 1).tmod (n : Int) = (m : Int) := by
        rw [← hm, Int.tmod_eq_emod_of_nonneg (by omega), show (k : Int) + (n : Int) - 1 = ((k + n - 1 : Nat) : Int) by omega]
        first | exact (Int.natCast_emod (k + n - 1) n).symm | rfl
      rcases (Sgs.nw HR.out HW.out) with h0 | ⟨b, rfl, hc⟩
      · have := HN.out; rw [h0] at this; simp at this; omega
      have hck := hc k (by rw [HN.out]; exact hlt)
      have hcm := hc m (by rw [HN.out]; exact hmn)
      have HJ : Hid _ := HJJ.out m k hmn hlt
      have HSk := HS.out k
      rw [hm] at HSk
      have hmz : k = 0 → (-1 : Int) % (n : Int) = (m : Int) := fun hz => by
        subst hz
        rw [Int.tmod_eq_emod_of_nonneg (by omega)] at hrm
        rw [← hrm]
        simp
      clear hc hm HS HJJ
      generalize sgAt l k = X at *
      generalize sgAt l m = Y at *
      obtain ⟨⟨bfx, bfy⟩, ⟨btx, bty⟩, ⟨bsx, bsy⟩⟩ := X
      obtain ⟨⟨afx, afy⟩, ⟨atx, aty⟩, ⟨asx, asy⟩⟩ := Y
      have q0 := hck 0 _ rfl
      have q1 := hck 1 _ rfl
      have q2 := hck 2 _ rfl
      have q3 := hck 3 _ rfl
      have q4 := hck 4 _ rfl
      have q5 := hck 5 _ rfl
      have p0 := hcm 0 _ rfl
      have p1 := hcm 1 _ rfl
      have p2 := hcm 2 _ rfl
      have p3 := hcm 3 _ rfl
      have p4 := hcm 4 _ rfl
      have p5 := hcm 5 _ rfl
      simp only [Nat.add_zero] at q0 q1 q2 q3 q4 q5 p0 p1 p2 p3 p4 p5
      simp only at HJ
      have hb : b < wr.heap.size := World.block_lt_of_cell? wr ⟨b, _, none⟩ q0
      clear hck hcm
      by_cases hz : k = 0 ∧ cl = false
      · obtain ⟨rfl, rfl⟩ := hz
        go_wp2
        go_roundw
        case rel => exact ⟨0 + 1, it, hlt, by go_num, OwnLn.nw HO.out (Kp.nw ((Kp.refl wr).alloc _ _)), by rw [HZ.out rfl]; exact HE.out, Nw.trans HW.out (Kp.nw ((Kp.refl wr).alloc _ _))⟩
        case measure => simp [intOf]; omega
      · have HX : Hid _ := HSk hz
        clear HSk
        by_cases hk0 : k = 0
        · subst hk0
          have hcl : cl = true := by cases cl with | true => rfl | false => exact absurd ⟨rfl, rfl⟩ hz
          subst hcl
          have hmy := hmz rfl
          clear hz hmz hrm
          go_upto_region 6 with fail
          go_wp2_with fail
          refine Calls.mono (HJ.out _) ?_
          rintro e w1 ⟨v1, rfl, o1, n1⟩
          have N1 : Hid (Nw wr w1) := Nw.trans (Kp.nw (((Kp.refl wr).alloc _ _).alloc _ _)) n1
          have O1 : Hid (OwnP w1 wr.heap.size v1 _) := OwnQ.base o1 (by simp; omega)
          obtain ⟨ua, uc, hu, _⟩ := o1.pts
          subst hu
          clear o1 n1 q0 q1 q2 q3 q4 q5 p0 p1 p2 p3 p4 p5
          go_wp2_with (at_builtin; (refine wpl_ln wr w1 rfl (.tmp 37) (.tmp 44) rfl w.heap.size (.slice va vn vc) it _ ⟨J ⟨(afx, afy), (atx, aty), (asx, asy)⟩ ⟨(bfx, bfy), (btx, bty), (bsx, bsy)⟩, true⟩ rfl HO.out N1.out ?hB O1.out ?hx ?hl ?_))
          case hB => exact Below.size HW.out
          case hx => rfl
          case hl => omega
          intro g' c' w9 h2 h3
          have H2 : Hid _ := h2
          have N9 : Hid (Nw w w9) := Below.trans HW.out h3
          clear h2 h3
          go_wp2
          go_roundw
          case rel => exact ⟨0 + 1, _, hlt, by go_num, H2.out, by rw [HX.out, List.map_append, HE.out]; rfl, N9.out⟩
          case measure => simp [intOf]; omega
        · have d2 : ((k : Int) == 0) = false := by simp; omega
          clear hz
          go_wp2_with fail
          refine Calls.mono (HJ.out _) ?_
          rintro e w1 ⟨v1, rfl, o1, n1⟩
          have N1 : Hid (Nw wr w1) := Nw.trans (Kp.nw (((Kp.refl wr).alloc _ _).alloc _ _)) n1
          have O1 : Hid (OwnP w1 wr.heap.size v1 _) := OwnQ.base o1 (by simp; omega)
          obtain ⟨ua, uc, hu, _⟩ := o1.pts
          subst hu
          clear o1 n1 q0 q1 q2 q3 q4 q5 p0 p1 p2 p3 p4 p5
          go_wp2_with (at_builtin; (refine wpl_ln wr w1 rfl (.tmp 37) (.tmp 44) rfl w.heap.size (.slice va vn vc) it _ ⟨J ⟨(afx, afy), (atx, aty), (asx, asy)⟩ ⟨(bfx, bfy), (btx, bty), (bsx, bsy)⟩, true⟩ rfl HO.out N1.out ?hB O1.out ?hx ?hl ?_))
          case hB => exact Below.size HW.out
          case hx => rfl
          case hl => omega
          intro g' c' w9 h2 h3
          have H2 : Hid _ := h2
          have N9 : Hid (Nw w w9) := Below.trans HW.out h3
          clear h2 h3
          go_wp2
          go_roundw
          case rel => exact ⟨k + 1, _, hlt, by go_num, H2.out, by rw [HX.out, List.map_append, HE.out]; rfl, N9.out⟩
          case measure => simp [intOf]; omega
    · obtain rfl : k = n := by omega
      have d1 : decide ((k : Int) < (k : Int)) = false := by simp
      go_wp2
      go_ret
      exact ⟨_, rfl, LsOk.of HO.out HE.out, HW.out⟩
end Go.Proofs.YtfdjjbgcaojcnaaGreat
namespace Go.Proofs.YtfdjjbgcaojcnaaGreat
open Go.ChangeShapes Go.WideShapes Go.ChangeAt Go.RowKit
set_option linter.unusedVariables false

theorem iplus (w : World) (x1 y1 x2 y2 : Int) (h1 : sml x1) (h2 : sml y1) (h3 : sml x2) (h4 : sml y2) :
    Calls Tryz.prog 83 #[.agg #[.int .i64 x1, .int .i64 y1], .agg #[.int .i64 x2, .int .i64 y2]] w fun e w' => e = .returned (.agg #[.int .i64 (x1 + x2), .int .i64 (y1 + y2)]) ∧ Kp w w' := by
  unfold sml at *
  go_enter Tryz.func83, Tryz.ntmps83
  go_wp2
  refine bodyPost_ret (v := .agg #[.int .i64 (x1 + x2), .int .i64 (y1 + y2)]) (by simp [results, Tryz.results83, go_sem]) rfl ⟨rfl, ?_⟩
  exact (((Kp.refl w).alloc _ _).alloc _ _).alloc _ _
theorem ddk (a b : Int) (w : World) (hb : 0 < b) (hb' : b ≤ 4611686018427387904) (h1 : -4611686018427387904 ≤ a) (h2 : a ≤ 4611686018427387904) :
    Calls Tryz.prog 84 #[.int .i64 a, .int .i64 b] w fun e w' => e = .returned (.int .i64 (a / b)) ∧ Kp w w' := by
  refine Calls.mono (divDown_any a b w hb hb' h1 h2) ?_
  rintro e w' ⟨rfl, rfl⟩
  exact ⟨rfl, Kp.refl _⟩
structure PLR where
  ba : Nat
  bd : Nat
  br : Nat
  ax : Int
  ay : Int
  dx : Int
  dy : Int
  k : Int
  n : Int
  W : World
  a0 : Act
structure PLROk (X : PLR) : Prop where
  a0 : X.W.cell? ⟨X.ba, 0, none⟩ = some (.int .i64 X.ax)
  a1 : X.W.cell? ⟨X.ba, 1, none⟩ = some (.int .i64 X.ay)
  d0 : X.W.cell? ⟨X.bd, 0, none⟩ = some (.int .i64 X.dx)
  d1 : X.W.cell? ⟨X.bd, 1, none⟩ = some (.int .i64 X.dy)
  hn : 0 < X.n
  hn2 : X.n ≤ 4611686018427387904
  mx : -4611686018427387904 ≤ X.dx * X.k ∧ X.dx * X.k ≤ 4611686018427387904
  my : -4611686018427387904 ≤ X.dy * X.k ∧ X.dy * X.k ≤ 4611686018427387904
  w1 : IntKind.i64.wrap (X.dx * X.k) = X.dx * X.k
  w2 : IntKind.i64.wrap (X.dy * X.k) = X.dy * X.k
  s1 : sml X.ax
  s2 : sml X.ay
  s3 : sml (X.dx * X.k / X.n)
  s4 : sml (X.dy * X.k / X.n)
  z0 : ∃ u, X.W.cell? ⟨X.br, 0, none⟩ = some u
  z1 : ∃ u, X.W.cell? ⟨X.br, 1, none⟩ = some u
  zf : ∀ o, X.W.frozen? ⟨X.br, o, none⟩ = false
  e2 : X.a0.eval (.tmp 2) = .int .i64 X.k
  e3 : X.a0.eval (.tmp 3) = .int .i64 X.n
  e4 : X.a0.eval (.tmp 4) = .pointer (some ⟨X.ba, 0, none⟩)
  e8 : X.a0.eval (.tmp 8) = .pointer (some ⟨X.br, 0, none⟩)
  e9 : X.a0.eval (.tmp 9) = .pointer (some ⟨X.bd, 0, none⟩)
  sz : X.a0.tmps.size = 28
def PLR.val0 (X : PLR) : Nat → Value
  | 13 => .agg #[.int .i64 X.ax, .int .i64 X.ay]
  | 14 => .pointer (some ⟨X.bd, 0, none⟩)
  | 15 => .int .i64 X.dx
  | 16 => .int .i64 X.k
  | 17 => .int .i64 (X.dx * X.k)
  | 18 => .int .i64 X.n
  | 19 => .int .i64 (X.dx * X.k / X.n)
  | 20 => .pointer (some ⟨X.bd, 1, none⟩)
  | 21 => .int .i64 X.dy
  | 22 => .int .i64 X.k
  | 23 => .int .i64 (X.dy * X.k)
  | 24 => .int .i64 X.n
  | 25 => .int .i64 (X.dy * X.k / X.n)
  | 26 => .agg #[.int .i64 (X.dx * X.k / X.n), .int .i64 (X.dy * X.k / X.n)]
  | 27 => .agg #[.int .i64 (X.ax + X.dx * X.k / X.n), .int .i64 (X.ay + X.dy * X.k / X.n)]
  | _ => undef
def PLR.av : Nat → Option Nat
  | _ => none
def PLR.acts : List Nat := [15]
/-- The world, by how many of the acting ones have come up. -/
def PLR.Wd (X : PLR) : Nat → (Nat → Value) → World → Prop
  | 0, _, w => Kp X.W w
  | _, _, w => ∃ w1, Kp X.W w1 ∧ w = ((w1.setCell ⟨X.br, 0, none⟩ (.int .i64 (X.ax + X.dx * X.k / X.n))).setCell ⟨X.br, 1, none⟩ (.int .i64 (X.ay + X.dy * X.k / X.n)))
theorem PLR.chain : chainG (opsOf 2 Tryz.f64) PLR.acts = true := by kernel_rfl
theorem PLR.nodup : PLR.acts.Nodup := by decide
theorem PLR.inj {listed : Array Bool} {i k : Nat} (h : (List.range (opsOf 2 Tryz.f64).size).all (fun j => decide (j = i) || !(match dstOf (opsOf 2 Tryz.f64) j with | some d => decide (PLR.av d = some k) | none => false)) = true) (hu : listed.getD i false = false) : ∀ d, got (opsOf 2 Tryz.f64) listed d → PLR.av d ≠ some k := by
  rintro d ⟨j, h1, h2⟩ h3
  have hlt : j < (opsOf 2 Tryz.f64).size := by
    rcases Nat.lt_or_ge j (opsOf 2 Tryz.f64).size with h4 | h4
    · exact h4
    · unfold dstOf at h2; rw [Array.getElem?_eq_none h4] at h2; cases h2
  have h5 := List.all_eq_true.1 h j (List.mem_range.2 hlt)
  rw [h2] at h5
  simp only [h3, decide_true, Bool.not_true, Bool.or_false, decide_eq_true_eq] at h5
  subst h5
  rw [hu] at h1
  cases h1
theorem PLR.s0 (X : PLR) (ok : PLROk X) {Q : Exit → Act → World → Prop} : StepG (opsOf 2 Tryz.f64) PLR.acts PLR.av X.val0 X.Wd X.a0 Q 0 := by
  intro γ listed a w o hF hC hW h1 ho h2
  obtain ⟨hd, hop, hg⟩ := fields2 (x := some 13) (y := Op.load 34 (.tmp 4)) (z := none) (by kernel_rfl) ho
  have e4 : a.eval (.tmp 4) = .pointer (some ⟨X.ba, 0, none⟩) := (hF.eval0 (by kernel_rfl)).trans ok.e4
  have hph := phase_leG (acts := PLR.acts) (m := 0) (x := 15) hC (unl (hF.lt ho) h1) rfl [14, 0] (by kernel_rfl) (by decide)
  have hWW := hW
  generalize phase listed PLR.acts = n at hph hWW
  have hk : Kp X.W w := by
    obtain rfl : n = 0 := by omega
    exact hWW
  have hc0 := rq_at hk ok.a0
  have hc1 := rq_at hk ok.a1
  refine st_pureG hF hC hW ho h2 (by decide) hd hg rfl ?_
  show _ = Result.ok (Next.value (.agg #[.int .i64 X.ax, .int .i64 X.ay])) w
  generalize a.eval = ρ at e4 ⊢
  unfold execOp
  rw [hop]
  simp [e4, hc0, hc1, go_sem]
theorem PLR.s1 (X : PLR) (ok : PLROk X) {Q : Exit → Act → World → Prop} : StepG (opsOf 2 Tryz.f64) PLR.acts PLR.av X.val0 X.Wd X.a0 Q 1 := by
  intro γ listed a w o hF hC hW h1 ho h2
  obtain ⟨hd, hop, hg⟩ := fields2 (x := some 14) (y := Op.fieldAddr 34 (.tmp 9) 0) (z := none) (by kernel_rfl) ho
  have e9 : a.eval (.tmp 9) = .pointer (some ⟨X.bd, 0, none⟩) := (hF.eval0 (by kernel_rfl)).trans ok.e9
  refine st_pureG hF hC hW ho h2 (by decide) hd hg rfl ?_
  show _ = Result.ok (Next.value (.pointer (some ⟨X.bd, 0, none⟩))) w
  generalize a.eval = ρ at e9 ⊢
  unfold execOp
  rw [hop]
  simp [e9, go_sem]
theorem PLR.s2 (X : PLR) (ok : PLROk X) {Q : Exit → Act → World → Prop} : StepG (opsOf 2 Tryz.f64) PLR.acts PLR.av X.val0 X.Wd X.a0 Q 2 := by
  intro γ listed a w o hF hC hW h1 ho h2
  obtain ⟨hd, hop, hg⟩ := fields2 (x := some 15) (y := Op.load 3 (.tmp 14)) (z := none) (by kernel_rfl) ho
  have e14 : a.eval (.tmp 14) = .pointer (some ⟨X.bd, 0, none⟩) := slotG hF ho h2 (j := 1) (d := 14) (by kernel_rfl) (by kernel_rfl) (by rw [ok.sz]; decide)
  have hph := phase_leG (acts := PLR.acts) (m := 0) (x := 15) hC (unl (hF.lt ho) h1) rfl [14, 13, 6, 4, 2] (by kernel_rfl) (by decide)
  have hWW := hW
  generalize phase listed PLR.acts = n at hph hWW
  have hk : Kp X.W w := by
    obtain rfl : n = 0 := by omega
    exact hWW
  have hc0 := rq_at hk ok.d0
  refine st_pureG hF hC hW ho h2 (by decide) hd hg rfl ?_
  show _ = Result.ok (Next.value (.int .i64 X.dx)) w
  generalize a.eval = ρ at e14 ⊢
  unfold execOp
  rw [hop]
  simp [e14, hc0, go_sem]
theorem PLR.s3 (X : PLR) (ok : PLROk X) {Q : Exit → Act → World → Prop} : StepG (opsOf 2 Tryz.f64) PLR.acts PLR.av X.val0 X.Wd X.a0 Q 3 := by
  intro γ listed a w o hF hC hW h1 ho h2
  obtain ⟨hd, hop, hg⟩ := fields2 (x := some 16) (y := Op.move (.tmp 2)) (z := none) (by kernel_rfl) ho
  have e2 : a.eval (.tmp 2) = .int .i64 X.k := (hF.eval0 (by kernel_rfl)).trans ok.e2
  refine st_pureG hF hC hW ho h2 (by decide) hd hg rfl ?_
  show _ = Result.ok (Next.value (.int .i64 X.k)) w
  generalize a.eval = ρ at e2 ⊢
  unfold execOp
  rw [hop]
  simp [e2, go_sem]
theorem PLR.s4 (X : PLR) (ok : PLROk X) {Q : Exit → Act → World → Prop} : StepG (opsOf 2 Tryz.f64) PLR.acts PLR.av X.val0 X.Wd X.a0 Q 4 := by
  intro γ listed a w o hF hC hW h1 ho h2
  obtain ⟨hd, hop, hg⟩ := fields2 (x := some 17) (y := Op.binOp .mul 3 (.tmp 15) (.tmp 16) 3) (z := none) (by kernel_rfl) ho
  have e15 : a.eval (.tmp 15) = .int .i64 X.dx := slotG hF ho h2 (j := 2) (d := 15) (by kernel_rfl) (by kernel_rfl) (by rw [ok.sz]; decide)
  have e16 : a.eval (.tmp 16) = .int .i64 X.k := slotG hF ho h2 (j := 3) (d := 16) (by kernel_rfl) (by kernel_rfl) (by rw [ok.sz]; decide)
  refine st_pureG hF hC hW ho h2 (by decide) hd hg rfl ?_
  show _ = Result.ok (Next.value (.int .i64 (X.dx * X.k))) w
  generalize a.eval = ρ at e15 e16 ⊢
  unfold execOp
  rw [hop]
  simp [e15, e16, ok.w1, go_sem]
theorem PLR.s5 (X : PLR) (ok : PLROk X) {Q : Exit → Act → World → Prop} : StepG (opsOf 2 Tryz.f64) PLR.acts PLR.av X.val0 X.Wd X.a0 Q 5 := by
  intro γ listed a w o hF hC hW h1 ho h2
  obtain ⟨hd, hop, hg⟩ := fields2 (x := some 18) (y := Op.move (.tmp 3)) (z := none) (by kernel_rfl) ho
  have e3 : a.eval (.tmp 3) = .int .i64 X.n := (hF.eval0 (by kernel_rfl)).trans ok.e3
  refine st_pureG hF hC hW ho h2 (by decide) hd hg rfl ?_
  show _ = Result.ok (Next.value (.int .i64 X.n)) w
  generalize a.eval = ρ at e3 ⊢
  unfold execOp
  rw [hop]
  simp [e3, go_sem]
theorem PLR.s6 (X : PLR) (ok : PLROk X) {Q : Exit → Act → World → Prop} : StepG (opsOf 2 Tryz.f64) PLR.acts PLR.av X.val0 X.Wd X.a0 Q 6 := by
  intro γ listed a w o hF hC hW h1 ho h2
  obtain ⟨hd, hop, hg⟩ := fields2 (x := some 19) (y := Op.call { callee := .value (.func 84), args := #[(.tmp 17), (.tmp 18)], argTypes := #[3, 3] }) (z := none) (by kernel_rfl) ho
  have e17 : a.eval (.tmp 17) = .int .i64 (X.dx * X.k) := slotG hF ho h2 (j := 4) (d := 17) (by kernel_rfl) (by kernel_rfl) (by rw [ok.sz]; decide)
  have e18 : a.eval (.tmp 18) = .int .i64 X.n := slotG hF ho h2 (j := 5) (d := 18) (by kernel_rfl) (by kernel_rfl) (by rw [ok.sz]; decide)
  have ef : a.eval (.func 84) = .func (.func 84) #[] #[] := rfl
  have hph := phase_leG (acts := PLR.acts) (m := 0) (x := 15) hC (unl (hF.lt ho) h1) rfl [14, 13, 6] (by kernel_rfl) (by decide)
  have hWW := hW
  generalize phase listed PLR.acts = n at hph hWW
  refine st_callG hF hC hW ho h2 (by decide) hd hg rfl (f := 84) (args := #[.int .i64 (X.dx * X.k), .int .i64 X.n]) ?_ ?_ ?_
  · generalize a.eval = ρ at e17 e18 ef ⊢
    unfold execOp
    rw [hop]
    simp [e17, e18, ef, go_sem]
  · exact ddk _ _ w ok.hn ok.hn2 ok.mx.1 ok.mx.2
  · intro w' hk
    have hz : phase listed PLR.acts = 0 := by
      have := phase_leG (acts := PLR.acts) (m := 0) (x := 15) hC (unl (hF.lt ho) h1) rfl [14, 13, 6] (by kernel_rfl) (by decide)
      omega
    rw [hz] at hW ⊢
    exact Kp.trans hW hk
theorem PLR.s7 (X : PLR) (ok : PLROk X) {Q : Exit → Act → World → Prop} : StepG (opsOf 2 Tryz.f64) PLR.acts PLR.av X.val0 X.Wd X.a0 Q 7 := by
  intro γ listed a w o hF hC hW h1 ho h2
  obtain ⟨hd, hop, hg⟩ := fields2 (x := some 20) (y := Op.fieldAddr 34 (.tmp 9) 1) (z := none) (by kernel_rfl) ho
  have e9 : a.eval (.tmp 9) = .pointer (some ⟨X.bd, 0, none⟩) := (hF.eval0 (by kernel_rfl)).trans ok.e9
  refine st_pureG hF hC hW ho h2 (by decide) hd hg rfl ?_
  show _ = Result.ok (Next.value (.pointer (some ⟨X.bd, 1, none⟩))) w
  generalize a.eval = ρ at e9 ⊢
  unfold execOp
  rw [hop]
  simp [e9, go_sem]
theorem PLR.s8 (X : PLR) (ok : PLROk X) {Q : Exit → Act → World → Prop} : StepG (opsOf 2 Tryz.f64) PLR.acts PLR.av X.val0 X.Wd X.a0 Q 8 := by
  intro γ listed a w o hF hC hW h1 ho h2
  obtain ⟨hd, hop, hg⟩ := fields2 (x := some 21) (y := Op.load 3 (.tmp 20)) (z := none) (by kernel_rfl) ho
  have e20 : a.eval (.tmp 20) = .pointer (some ⟨X.bd, 1, none⟩) := slotG hF ho h2 (j := 7) (d := 20) (by kernel_rfl) (by kernel_rfl) (by rw [ok.sz]; decide)
  have hph := phase_leG (acts := PLR.acts) (m := 0) (x := 15) hC (unl (hF.lt ho) h1) rfl [14, 13, 12, 10, 8] (by kernel_rfl) (by decide)
  have hWW := hW
  generalize phase listed PLR.acts = n at hph hWW
  have hk : Kp X.W w := by
    obtain rfl : n = 0 := by omega
    exact hWW
  have hc0 := rq_at hk ok.d1
  refine st_pureG hF hC hW ho h2 (by decide) hd hg rfl ?_
  show _ = Result.ok (Next.value (.int .i64 X.dy)) w
  generalize a.eval = ρ at e20 ⊢
  unfold execOp
  rw [hop]
  simp [e20, hc0, go_sem]
theorem PLR.s9 (X : PLR) (ok : PLROk X) {Q : Exit → Act → World → Prop} : StepG (opsOf 2 Tryz.f64) PLR.acts PLR.av X.val0 X.Wd X.a0 Q 9 := by
  intro γ listed a w o hF hC hW h1 ho h2
  obtain ⟨hd, hop, hg⟩ := fields2 (x := some 22) (y := Op.move (.tmp 2)) (z := none) (by kernel_rfl) ho
  have e2 : a.eval (.tmp 2) = .int .i64 X.k := (hF.eval0 (by kernel_rfl)).trans ok.e2
  refine st_pureG hF hC hW ho h2 (by decide) hd hg rfl ?_
  show _ = Result.ok (Next.value (.int .i64 X.k)) w
  generalize a.eval = ρ at e2 ⊢
  unfold execOp
  rw [hop]
  simp [e2, go_sem]
theorem PLR.s10 (X : PLR) (ok : PLROk X) {Q : Exit → Act → World → Prop} : StepG (opsOf 2 Tryz.f64) PLR.acts PLR.av X.val0 X.Wd X.a0 Q 10 := by
  intro γ listed a w o hF hC hW h1 ho h2
  obtain ⟨hd, hop, hg⟩ := fields2 (x := some 23) (y := Op.binOp .mul 3 (.tmp 21) (.tmp 22) 3) (z := none) (by kernel_rfl) ho
  have e21 : a.eval (.tmp 21) = .int .i64 X.dy := slotG hF ho h2 (j := 8) (d := 21) (by kernel_rfl) (by kernel_rfl) (by rw [ok.sz]; decide)
  have e22 : a.eval (.tmp 22) = .int .i64 X.k := slotG hF ho h2 (j := 9) (d := 22) (by kernel_rfl) (by kernel_rfl) (by rw [ok.sz]; decide)
  refine st_pureG hF hC hW ho h2 (by decide) hd hg rfl ?_
  show _ = Result.ok (Next.value (.int .i64 (X.dy * X.k))) w
  generalize a.eval = ρ at e21 e22 ⊢
  unfold execOp
  rw [hop]
  simp [e21, e22, ok.w2, go_sem]
theorem PLR.s11 (X : PLR) (ok : PLROk X) {Q : Exit → Act → World → Prop} : StepG (opsOf 2 Tryz.f64) PLR.acts PLR.av X.val0 X.Wd X.a0 Q 11 := by
  intro γ listed a w o hF hC hW h1 ho h2
  obtain ⟨hd, hop, hg⟩ := fields2 (x := some 24) (y := Op.move (.tmp 3)) (z := none) (by kernel_rfl) ho
  have e3 : a.eval (.tmp 3) = .int .i64 X.n := (hF.eval0 (by kernel_rfl)).trans ok.e3
  refine st_pureG hF hC hW ho h2 (by decide) hd hg rfl ?_
  show _ = Result.ok (Next.value (.int .i64 X.n)) w
  generalize a.eval = ρ at e3 ⊢
  unfold execOp
  rw [hop]
  simp [e3, go_sem]
theorem PLR.s12 (X : PLR) (ok : PLROk X) {Q : Exit → Act → World → Prop} : StepG (opsOf 2 Tryz.f64) PLR.acts PLR.av X.val0 X.Wd X.a0 Q 12 := by
  intro γ listed a w o hF hC hW h1 ho h2
  obtain ⟨hd, hop, hg⟩ := fields2 (x := some 25) (y := Op.call { callee := .value (.func 84), args := #[(.tmp 23), (.tmp 24)], argTypes := #[3, 3] }) (z := none) (by kernel_rfl) ho
  have e23 : a.eval (.tmp 23) = .int .i64 (X.dy * X.k) := slotG hF ho h2 (j := 10) (d := 23) (by kernel_rfl) (by kernel_rfl) (by rw [ok.sz]; decide)
  have e24 : a.eval (.tmp 24) = .int .i64 X.n := slotG hF ho h2 (j := 11) (d := 24) (by kernel_rfl) (by kernel_rfl) (by rw [ok.sz]; decide)
  have ef : a.eval (.func 84) = .func (.func 84) #[] #[] := rfl
  have hph := phase_leG (acts := PLR.acts) (m := 0) (x := 15) hC (unl (hF.lt ho) h1) rfl [14, 13, 12] (by kernel_rfl) (by decide)
  have hWW := hW
  generalize phase listed PLR.acts = n at hph hWW
  refine st_callG hF hC hW ho h2 (by decide) hd hg rfl (f := 84) (args := #[.int .i64 (X.dy * X.k), .int .i64 X.n]) ?_ ?_ ?_
  · generalize a.eval = ρ at e23 e24 ef ⊢
    unfold execOp
    rw [hop]
    simp [e23, e24, ef, go_sem]
  · exact ddk _ _ w ok.hn ok.hn2 ok.my.1 ok.my.2
  · intro w' hk
    have hz : phase listed PLR.acts = 0 := by
      have := phase_leG (acts := PLR.acts) (m := 0) (x := 15) hC (unl (hF.lt ho) h1) rfl [14, 13, 12] (by kernel_rfl) (by decide)
      omega
    rw [hz] at hW ⊢
    exact Kp.trans hW hk
theorem PLR.s13 (X : PLR) (ok : PLROk X) {Q : Exit → Act → World → Prop} : StepG (opsOf 2 Tryz.f64) PLR.acts PLR.av X.val0 X.Wd X.a0 Q 13 := by
  intro γ listed a w o hF hC hW h1 ho h2
  obtain ⟨hd, hop, hg⟩ := fields2 (x := some 26) (y := Op.build 34 #[(0, (.tmp 19)), (1, (.tmp 25))]) (z := none) (by kernel_rfl) ho
  have e19 : a.eval (.tmp 19) = .int .i64 (X.dx * X.k / X.n) := slotG hF ho h2 (j := 6) (d := 19) (by kernel_rfl) (by kernel_rfl) (by rw [ok.sz]; decide)
  have e25 : a.eval (.tmp 25) = .int .i64 (X.dy * X.k / X.n) := slotG hF ho h2 (j := 12) (d := 25) (by kernel_rfl) (by kernel_rfl) (by rw [ok.sz]; decide)
  refine st_pureG hF hC hW ho h2 (by decide) hd hg rfl ?_
  show _ = Result.ok (Next.value (.agg #[.int .i64 (X.dx * X.k / X.n), .int .i64 (X.dy * X.k / X.n)])) w
  generalize a.eval = ρ at e19 e25 ⊢
  unfold execOp
  rw [hop]
  simp [e19, e25, go_sem]
theorem PLR.s14 (X : PLR) (ok : PLROk X) {Q : Exit → Act → World → Prop} : StepG (opsOf 2 Tryz.f64) PLR.acts PLR.av X.val0 X.Wd X.a0 Q 14 := by
  intro γ listed a w o hF hC hW h1 ho h2
  obtain ⟨hd, hop, hg⟩ := fields2 (x := some 27) (y := Op.call { callee := .value (.func 83), args := #[(.tmp 13), (.tmp 26)], argTypes := #[34, 34] }) (z := none) (by kernel_rfl) ho
  have e13 : a.eval (.tmp 13) = .agg #[.int .i64 X.ax, .int .i64 X.ay] := slotG hF ho h2 (j := 0) (d := 13) (by kernel_rfl) (by kernel_rfl) (by rw [ok.sz]; decide)
  have e26 : a.eval (.tmp 26) = .agg #[.int .i64 (X.dx * X.k / X.n), .int .i64 (X.dy * X.k / X.n)] := slotG hF ho h2 (j := 13) (d := 26) (by kernel_rfl) (by kernel_rfl) (by rw [ok.sz]; decide)
  have ef : a.eval (.func 83) = .func (.func 83) #[] #[] := rfl
  have hph := phase_leG (acts := PLR.acts) (m := 0) (x := 15) hC (unl (hF.lt ho) h1) rfl [14] (by kernel_rfl) (by decide)
  have hWW := hW
  generalize phase listed PLR.acts = n at hph hWW
  refine st_callG hF hC hW ho h2 (by decide) hd hg rfl (f := 83) (args := #[.agg #[.int .i64 X.ax, .int .i64 X.ay], .agg #[.int .i64 (X.dx * X.k / X.n), .int .i64 (X.dy * X.k / X.n)]]) ?_ ?_ ?_
  · generalize a.eval = ρ at e13 e26 ef ⊢
    unfold execOp
    rw [hop]
    simp [e13, e26, ef, go_sem]
  · exact iplus w _ _ _ _ ok.s1 ok.s2 ok.s3 ok.s4
  · intro w' hk
    have hz : phase listed PLR.acts = 0 := by
      have := phase_leG (acts := PLR.acts) (m := 0) (x := 15) hC (unl (hF.lt ho) h1) rfl [14] (by kernel_rfl) (by decide)
      omega
    rw [hz] at hW ⊢
    exact Kp.trans hW hk
theorem PLR.s15 (X : PLR) (ok : PLROk X) {Q : Exit → Act → World → Prop} : StepG (opsOf 2 Tryz.f64) PLR.acts PLR.av X.val0 X.Wd X.a0 Q 15 := by
  intro γ listed a w o hF hC hW h1 ho h2
  obtain ⟨hd, hop, hg⟩ := fields2 (x := none) (y := Op.store 34 (.tmp 8) (.tmp 27)) (z := none) (by kernel_rfl) ho
  have e8 : a.eval (.tmp 8) = .pointer (some ⟨X.br, 0, none⟩) := (hF.eval0 (by kernel_rfl)).trans ok.e8
  have e27 : a.eval (.tmp 27) = .agg #[.int .i64 (X.ax + X.dx * X.k / X.n), .int .i64 (X.ay + X.dy * X.k / X.n)] := slotG hF ho h2 (j := 14) (d := 27) (by kernel_rfl) (by kernel_rfl) (by rw [ok.sz]; decide)
  have hu := unl (hF.lt ho) h1
  refine st_actG (k := 0) PLR.chain PLR.nodup rfl hF hC hW h1 ho h2 (Or.inl hd) (PLR.inj (by kernel_rfl) hu) hg ?_
  intro hW0 K hK
  obtain ⟨u0, z0⟩ := ok.z0
  replace z0 := rq_at hW0 z0
  obtain ⟨u1, z1⟩ := ok.z1
  replace z1 := rq_at hW0 z1
  have zf : ∀ o, w.frozen? ⟨X.br, o, none⟩ = false := fun o => (hW0.cells.2 _ _).trans (ok.zf o)
  have hr : (execOp a.eval o).run Tryz.prog w = .ok .skip ((w.setCell ⟨X.br, 0, none⟩ (.int .i64 (X.ax + X.dx * X.k / X.n))).setCell ⟨X.br, 1, none⟩ (.int .i64 (X.ay + X.dy * X.k / X.n))) := by
    generalize a.eval = ρ at e8 e27 ⊢
    unfold execOp
    rw [hop]
    simp [e8, e27, z0, z1, zf, go_sem]
  unfold Oper.wp
  rw [hr]
  exact hK _ _ ⟨w, hW0, rfl⟩
theorem PLR.size : (opsOf 2 Tryz.f64).size = 16 := by kernel_rfl
theorem PLR.steps (X : PLR) (ok : PLROk X) {Q : Exit → Act → World → Prop} (i : Nat) (hi : i < (opsOf 2 Tryz.f64).size) : StepG (opsOf 2 Tryz.f64) PLR.acts PLR.av X.val0 X.Wd X.a0 Q i := by
  rw [PLR.size] at hi
  have hc : i = 0 ∨ i = 1 ∨ i = 2 ∨ i = 3 ∨ i = 4 ∨ i = 5 ∨ i = 6 ∨ i = 7 ∨ i = 8 ∨ i = 9 ∨ i = 10 ∨ i = 11 ∨ i = 12 ∨ i = 13 ∨ i = 14 ∨ i = 15 := by omega
  rcases hc with rfl | rfl | rfl | rfl | rfl | rfl | rfl | rfl | rfl | rfl | rfl | rfl | rfl | rfl | rfl | rfl
  · exact PLR.s0 X ok
  · exact PLR.s1 X ok
  · exact PLR.s2 X ok
  · exact PLR.s3 X ok
  · exact PLR.s4 X ok
  · exact PLR.s5 X ok
  · exact PLR.s6 X ok
  · exact PLR.s7 X ok
  · exact PLR.s8 X ok
  · exact PLR.s9 X ok
  · exact PLR.s10 X ok
  · exact PLR.s11 X ok
  · exact PLR.s12 X ok
  · exact PLR.s13 X ok
  · exact PLR.s14 X ok
  · exact PLR.s15 X ok
theorem PLR.puts (X : PLR) (γ : Nat → Value) (a0 : Act) : putsL (valG PLR.av X.val0 γ) (opsOf 2 Tryz.f64).toList a0 = (((((((((((((((a0.put (some 13) (.agg #[.int .i64 X.ax, .int .i64 X.ay])).put (some 14) (.pointer (some ⟨X.bd, 0, none⟩))).put (some 15) (.int .i64 X.dx)).put (some 16) (.int .i64 X.k)).put (some 17) (.int .i64 (X.dx * X.k))).put (some 18) (.int .i64 X.n)).put (some 19) (.int .i64 (X.dx * X.k / X.n))).put (some 20) (.pointer (some ⟨X.bd, 1, none⟩))).put (some 21) (.int .i64 X.dy)).put (some 22) (.int .i64 X.k)).put (some 23) (.int .i64 (X.dy * X.k))).put (some 24) (.int .i64 X.n)).put (some 25) (.int .i64 (X.dy * X.k / X.n))).put (some 26) (.agg #[.int .i64 (X.dx * X.k / X.n), .int .i64 (X.dy * X.k / X.n)])).put (some 27) (.agg #[.int .i64 (X.ax + X.dx * X.k / X.n), .int .i64 (X.ay + X.dy * X.k / X.n)])) := by kernel_rfl
/-- The region, whatever order comes up. -/
theorem PLR.run (X : PLR) (ok : PLROk X) {Q : Exit → Act → World → Prop} (w : World) (h0 : X.Wd 0 (fun _ => undef) w.drew) (hend : ∀ (γ : Nat → Value) w', X.Wd 1 γ w' → Q .normal (((((((((((((((X.a0.put (some 13) (.agg #[.int .i64 X.ax, .int .i64 X.ay])).put (some 14) (.pointer (some ⟨X.bd, 0, none⟩))).put (some 15) (.int .i64 X.dx)).put (some 16) (.int .i64 X.k)).put (some 17) (.int .i64 (X.dx * X.k))).put (some 18) (.int .i64 X.n)).put (some 19) (.int .i64 (X.dx * X.k / X.n))).put (some 20) (.pointer (some ⟨X.bd, 1, none⟩))).put (some 21) (.int .i64 X.dy)).put (some 22) (.int .i64 X.k)).put (some 23) (.int .i64 (X.dy * X.k))).put (some 24) (.int .i64 X.n)).put (some 25) (.int .i64 (X.dy * X.k / X.n))).put (some 26) (.agg #[.int .i64 (X.dx * X.k / X.n), .int .i64 (X.dy * X.k / X.n)])).put (some 27) (.agg #[.int .i64 (X.ax + X.dx * X.k / X.n), .int .i64 (X.ay + X.dy * X.k / X.n)])) w') : (Code.region 2 (opsOf 2 Tryz.f64) true).wp Tryz.prog Q X.a0 w := by
  refine reg_act (acts := PLR.acts) (av := PLR.av) (val0 := X.val0) (Wd := X.Wd) (by kernel_rfl) (by kernel_rfl) (by rw [PLR.size]; decide) (fun i hi => PLR.steps X ok i hi) _ h0 ?_
  intro γ w' h
  rw [PLR.puts]
  exact hend γ w' h
def placeV (a b : Pnt) (k n : Int) : Pnt := (a.1 + (b.1 - a.1) * k / n, a.2 + (b.2 - a.2) * k / n)
theorem mul_in {d k : Int} (h1 : -134217728 ≤ d) (h2 : d ≤ 134217728) (h3 : 0 ≤ k) (h4 : k ≤ 268435456) : -36028797018963968 ≤ d * k ∧ d * k ≤ 36028797018963968 := by
  rcases Int.le_total 0 d with h | h
  · have := Int.mul_le_mul h2 h4 h3 (by decide)
    have := Int.mul_nonneg h h3
    omega
  · have := Int.mul_le_mul (show -d ≤ 134217728 by omega) h4 h3 (by decide)
    have := Int.mul_nonneg (show 0 ≤ -d by omega) h3
    rw [Int.neg_mul] at *
    omega
theorem quo_in {x k n : Int} (h0 : 0 ≤ k) (hk : k ≤ n) (hn : 0 < n) (h1 : -134217728 ≤ x) (h2 : x ≤ 134217728) : -134217728 ≤ x * k / n ∧ x * k / n ≤ 134217728 := by
  constructor
  · refine Int.le_ediv_of_mul_le hn ?_
    have e1 : -134217728 * n ≤ -134217728 * k := by omega
    have e2 : -134217728 * k ≤ x * k := Int.mul_le_mul_of_nonneg_right h1 h0
    omega
  · refine Int.ediv_le_of_le_mul hn ?_
    have e1 : 134217728 * k ≤ 134217728 * n := by omega
    have e2 : x * k ≤ 134217728 * k := Int.mul_le_mul_of_nonneg_right h2 h0
    omega
set_option maxRecDepth 100000 in
set_option maxHeartbeats 4000000 in
/-- A place on a side. -/
theorem iplace (w : World) (ax ay bx by' k n : Int) (h1 : nr ax) (h2 : nr ay) (h3 : nr bx) (h4 : nr by') (hk : 0 ≤ k) (hkn : k ≤ n) (hn : 0 < n) (hn2 : n ≤ 268435456) :
    Calls Tryz.prog 64 #[.agg #[.int .i64 ax, .int .i64 ay], .agg #[.int .i64 bx, .int .i64 by'], .int .i64 k, .int .i64 n] w fun e w' => e = .returned (.agg #[.int .i64 (placeV (ax, ay) (bx, by') k n).1, .int .i64 (placeV (ax, ay) (bx, by') k n).2]) ∧ Nw w w' := by
  have HM : Hid (∀ w, _) := fun w => iminus w bx by' ax ay (nr_sml h3) (nr_sml h4) (nr_sml h1) (nr_sml h2)
  have HS1 : Hid (sml ax ∧ sml ay) := ⟨nr_sml h1, nr_sml h2⟩
  unfold nr at h1 h2 h3 h4
  have m1 := mul_in (d := bx - ax) (k := k) (by omega) (by omega) hk (by omega)
  have m2 := mul_in (d := by' - ay) (k := k) (by omega) (by omega) hk (by omega)
  have q1 := quo_in (x := bx - ax) hk hkn hn (by omega) (by omega)
  have q2 := quo_in (x := by' - ay) hk hkn hn (by omega) (by omega)
  have HQ : Hid (sml ((bx - ax) * k / n) ∧ sml ((by' - ay) * k / n)) := by unfold sml; exact ⟨⟨by omega, by omega⟩, ⟨by omega, by omega⟩⟩
  have w1 : IntKind.i64.wrap ((bx - ax) * k) = (bx - ax) * k := IntWalk.i64_in _ ⟨by omega, by omega⟩
  have w2 : IntKind.i64.wrap ((by' - ay) * k) = (by' - ay) * k := IntWalk.i64_in _ ⟨by omega, by omega⟩
  have HF : Hid ((-4611686018427387904 ≤ (bx - ax) * k ∧ (bx - ax) * k ≤ 4611686018427387904) ∧ (-4611686018427387904 ≤ (by' - ay) * k ∧ (by' - ay) * k ≤ 4611686018427387904) ∧ IntKind.i64.wrap ((bx - ax) * k) = (bx - ax) * k ∧ IntKind.i64.wrap ((by' - ay) * k) = (by' - ay) * k ∧ 0 < n ∧ n ≤ 4611686018427387904) := ⟨⟨by omega, by omega⟩, ⟨by omega, by omega⟩, w1, w2, hn, by omega⟩
  obtain ⟨W, hW⟩ : ∃ W, ((w.alloc (.cells #[.int .i64 ax, .int .i64 ay] 34)).alloc (.cells #[.int .i64 bx, .int .i64 by'] 34)).alloc (.cells #[.int .i64 0, .int .i64 0] 34) = W := ⟨_, rfl⟩
  have NW : Hid (Nw w W) := by show Nw w W; rw [← hW]; exact Nw.trans (Nw.trans ((Below.refl _ _).alloc (Nat.le_refl _) _) ((Below.refl _ _).alloc (Nat.le_refl _) _)) ((Below.refl _ _).alloc (Nat.le_refl _) _)
  have A1 : Hid (W.cell? ⟨w.heap.size, 0, none⟩ = some (.int .i64 ax) ∧ W.cell? ⟨w.heap.size, 1, none⟩ = some (.int .i64 ay)) := by
    show _ ∧ _
    rw [← hW]
    have k2 : Nw (w.alloc (.cells #[.int .i64 ax, .int .i64 ay] 34)) (((w.alloc (.cells #[.int .i64 ax, .int .i64 ay] 34)).alloc (.cells #[.int .i64 bx, .int .i64 by'] 34)).alloc (.cells #[.int .i64 0, .int .i64 0] 34)) := Nw.trans ((Below.refl _ _).alloc (Nat.le_refl _) _) ((Below.refl _ _).alloc (Nat.le_refl _) _)
    exact ⟨((bcell k2).1 _ _ (by simp)).trans (World.cell?_alloc_at _ _ _ _ rfl), ((bcell k2).1 _ _ (by simp)).trans (World.cell?_alloc_at _ _ _ _ rfl)⟩
  have HW : Hid (_ = W) := hW
  have R1 : Hid ((∃ z, W.cell? ⟨w.heap.size + 2, 0, none⟩ = some z) ∧ (∃ z, W.cell? ⟨w.heap.size + 2, 1, none⟩ = some z) ∧ ∀ o, W.frozen? ⟨w.heap.size + 2, o, none⟩ = false) := by
    have e : w.heap.size + 2 = ((w.alloc (.cells #[.int .i64 ax, .int .i64 ay] 34)).alloc (.cells #[.int .i64 bx, .int .i64 by'] 34)).heap.size := by simp
    show _ ∧ _
    rw [← hW, e]
    exact ⟨⟨_, World.cell?_alloc_at _ _ _ _ rfl⟩, ⟨_, World.cell?_alloc_at _ _ _ _ rfl⟩, fun o => World.frozen?_alloc_at _ _ _ _ rfl⟩
  have SZ : Hid (W.heap.size = w.heap.size + 3) := by show _ = _; rw [← hW]; simp
  have HP : Hid (placeV (ax, ay) (bx, by') k n = (ax + (bx - ax) * k / n, ay + (by' - ay) * k / n)) := rfl
  rw [HP.out]
  clear hW h1 h2 h3 h4 m1 m2 q1 q2 w1 w2 hk hkn hn hn2
  go_enter Tryz.func64, Tryz.ntmps64
  go_wp2_with fail
  rw [HW.out]
  refine Calls.mono (HM.out _) ?_
  rintro e w3 ⟨rfl, k3⟩
  generalize hdx : bx - ax = dx at *
  generalize hdy : by' - ay = dy at *
  have HDX : Hid (bx - ax = dx ∧ by' - ay = dy) := ⟨hdx, hdy⟩
  clear hdx hdy
  obtain ⟨W4, hW4⟩ : ∃ W4, w3.alloc (.cells #[.int .i64 dx, .int .i64 dy] 34) = W4 := ⟨_, rfl⟩
  have n4 : Nw w3 W4 := by rw [← hW4]; exact (Below.refl _ _).alloc (Nat.le_refl _) _
  have n5 : Nw W W4.drew := Nw.trans k3.nw (Nw.trans n4 ((Below.refl _ _).drew))
  have e5 := fun b o hb => (bcell n5).1 b o hb
  have f5 := fun b o hb => (bcell n5).2 b o hb
  have hsz := SZ.out
  have A5 : Hid (W4.drew.cell? ⟨w.heap.size, 0, none⟩ = some (.int .i64 ax) ∧ W4.drew.cell? ⟨w.heap.size, 1, none⟩ = some (.int .i64 ay)) := ⟨(e5 _ _ (by omega)).trans A1.out.1, (e5 _ _ (by omega)).trans A1.out.2⟩
  have D5 : Hid (W4.drew.cell? ⟨w3.heap.size, 0, none⟩ = some (.int .i64 dx) ∧ W4.drew.cell? ⟨w3.heap.size, 1, none⟩ = some (.int .i64 dy)) := by
    show W4.cell? _ = _ ∧ W4.cell? _ = _
    rw [← hW4]
    exact ⟨World.cell?_alloc_at _ _ _ _ rfl, World.cell?_alloc_at _ _ _ _ rfl⟩
  have R5 : Hid ((∃ z, W4.drew.cell? ⟨w.heap.size + 2, 0, none⟩ = some z) ∧ (∃ z, W4.drew.cell? ⟨w.heap.size + 2, 1, none⟩ = some z) ∧ ∀ o, W4.drew.frozen? ⟨w.heap.size + 2, o, none⟩ = false) := by
    obtain ⟨⟨z0, y0⟩, ⟨z1, y1⟩, yf⟩ := R1.out
    exact ⟨⟨z0, (e5 _ _ (by omega)).trans y0⟩, ⟨z1, (e5 _ _ (by omega)).trans y1⟩, fun o => (f5 _ _ (by omega)).trans (yf o)⟩
  have N4 : Hid (Nw w W4.drew) := Nw.trans NW.out n5
  have HW4 : Hid (_ = W4) := hW4
  clear k3 n4 n5 e5 f5 hsz hW4
  go_wp2
  rw [HW4.out]
  refine reg_change (ops' := opsOf 2 Tryz.f64) (by kernel_rfl) ?_
  refine PLR.run ⟨w.heap.size, w3.heap.size, w.heap.size + 2, ax, ay, dx, dy, k, n, W4.drew, _⟩ ⟨A5.out.1, A5.out.2, D5.out.1, D5.out.2, HF.out.2.2.2.2.1, HF.out.2.2.2.2.2, HF.out.1, HF.out.2.1, HF.out.2.2.1, HF.out.2.2.2.1, HS1.out.1, HS1.out.2, HQ.out.1, HQ.out.2, R5.out.1, R5.out.2.1, R5.out.2.2, rfl, rfl, rfl, rfl, rfl, rfl⟩ W4 (Kp.refl _) ?_
  rintro γ w9 ⟨w1, k1, rfl⟩
  obtain ⟨⟨z0, y0⟩, ⟨z1, y1⟩, _⟩ := R5.out
  have x0 := rq_at k1 y0
  have x1 := rq_at k1 y1
  have N1 : Hid (Nw w w1) := Nw.trans N4.out k1.nw
  clear k1 y0 y1
  simp only [Act.put, List.setIfInBounds_toArray, List.set_cons_zero, List.set_cons_succ]
  have c1 : (w1.setCell ⟨w.heap.size + 2, 0, none⟩ (.int .i64 (ax + dx * k / n))).cell? ⟨w.heap.size + 2, 1, none⟩ = some z1 := by
    rw [World.cell?_setCell_other _ _ _ _ (fun e => by injection e; omega)]; exact x1
  have y1 := World.cell?_setCell_same _ ⟨w.heap.size + 2, 1, none⟩ (.int .i64 (ay + dy * k / n)) c1
  have y0 : ((w1.setCell ⟨w.heap.size + 2, 0, none⟩ (.int .i64 (ax + dx * k / n))).setCell ⟨w.heap.size + 2, 1, none⟩ (.int .i64 (ay + dy * k / n))).cell? ⟨w.heap.size + 2, 0, none⟩ = some (.int .i64 (ax + dx * k / n)) := by
    rw [World.cell?_setCell_other _ _ _ _ (fun e => by injection e; omega)]
    exact World.cell?_setCell_same _ ⟨w.heap.size + 2, 0, none⟩ _ x0
  go_wp2
  refine bodyPost_ret (v := .agg #[.int .i64 (ax + dx * k / n), .int .i64 (ay + dy * k / n)]) (by simp [results, Tryz.results64, go_sem, y0, y1]) rfl ⟨by rw [HDX.out.1, HDX.out.2], ?_⟩
  exact (N1.out.setCell (by simp) _).setCell (by simp) _
end Go.Proofs.YtfdjjbgcaojcnaaGreat

/- (*builder).put, endText, closeFrom, over the builder's state. (*builder).closeFrom, closeTag, end. copied; (*builder).openTag; tree.Build. -/
import Derived.Test.YtlcljanibjdejaaGreatSo07
namespace Go.Proofs.YtlcljanibjdejaaGreat
open Go.RowKit Go.Maps
/-- A builder whose state is s, and what it may still change. -/
def BdT (w : World) (B r : Nat) (s : St) (T : List Nat) : Prop := ∃ openv textv l p, T = touchB r openv textv (l ++ [p]) ∧ l.map Po.o = s.up.reverse ∧ p.o = s.cur ∧ Bd w B r openv textv (l ++ [p]) s.text
theorem BdT.keepsNil {w w' : World} {B r : Nat} {s : St} {T : List Nat} (h : BdT w B r s T) (hk : Keeps [] w w') : BdT w' B r s T := by
  obtain ⟨o, t, l, p, e1, e2, e3, h⟩ := h
  exact ⟨o, t, l, p, e1, e2, e3, h.keepsNil hk⟩
theorem BdT.ge {w : World} {B r : Nat} {s : St} {T : List Nat} (h : BdT w B r s T) : (∀ g, g ∈ T → B ≤ g ∧ g < w.heap.size) ∧ B ≤ w.heap.size := by
  obtain ⟨o, t, l, p, rfl, e2, e3, h⟩ := h
  refine ⟨fun g hg => ?_, Nat.le_trans h.hr (Nat.le_of_lt h.lt)⟩
  rw [mem_touch] at hg
  rcases hg with rfl | hg | hg | ⟨q, hq, hg⟩
  · exact ⟨h.hr, h.lt⟩
  · exact h.txt.lt g hg
  · exact h.opn.lt g hg
  · exact (h.kids q hq).2.lt g hg
theorem up_len {l : List Po} {s : St} (h : l.map Po.o = s.up.reverse) : l.length = s.up.length := by simpa using congrArg List.length h
theorem ks_len {w : World} {B r : Nat} {openv textv : Value} {l : List Po} {p : Po} {text : List UInt8} (h : Bd w B r openv textv (l ++ [p]) text) : p.ks.length = p.o.kids.length := by
  rw [← (h.kids p (by simp)).1, List.length_map]
theorem putS_any (B r : Nat) (s : St) (T : List Nat) (w : World) (h : BdT w B r s T) (hw : s.weight ≤ 100000)
    (nd : Nd) (oa ok : Option Addr) (na ca nk ck : Nat) (hqa : LiesP w (DoneB B T) (.slice oa na ca) nd.attrs.length 2 (pairCells nd.attrs)) (hqk : Ns w (DoneB B T) (.slice ok nk ck) nd.kids) :
    Calls Tryz.prog 167 #[.pointer (some ⟨r, 0, none⟩), .agg #[.string ⟨nd.name.toArray⟩, .slice oa na ca, .string ⟨nd.text.toArray⟩, .slice ok nk ck]] w fun e w' =>
      e = .returned (.tuple #[]) ∧ ∃ T', BdT w' B r (s.put nd) T' ∧ Stp w T w' T' := by
  obtain ⟨openv, textv, l, p, rfl, e2, e3, h⟩ := h
  have h1 := weight_cur s
  have h2 := weight_up s
  refine (putN_any B r openv textv l p s.text w h (by rw [up_len e2]; omega) (by rw [ks_len h, e3]; omega) nd oa ok na ca nk ck hqa hqk).mono ?_
  rintro e w' ⟨he, kv3, hB, hb⟩
  exact ⟨he, _, ⟨openv, textv, l, _, rfl, e2, by simp [St.put, e3], hB⟩, hb⟩
set_option maxRecDepth 4000 in
set_option maxHeartbeats 4000000 in
theorem endTextS_any (B r : Nat) (s : St) (T : List Nat) (w : World) (h : BdT w B r s T) (hw : s.weight ≤ 100000) :
    Calls Tryz.prog 164 #[.pointer (some ⟨r, 0, none⟩)] w fun e w' =>
      e = .returned (.tuple #[]) ∧ ∃ T', BdT w' B r s.endText T' ∧ Stp w T w' T' := by
  obtain ⟨openv, textv, l, p, rfl, e2, e3, h⟩ := h
  have h1 := weight_cur s
  have h2 := weight_up s
  have hl : l.length ≤ 100000 := by rw [up_len e2]; omega
  have hks : p.ks.length ≤ 100000 := by rw [ks_len h, e3]; omega
  obtain ⟨up, cur, text⟩ := s
  simp only at e2 e3 h
  unfold St.endText
  simp only
  have c1 := h.cell1
  by_cases hne : text = []
  · rw [if_pos hne]
    subst hne
    obtain ⟨o, c, ho⟩ := row_form h.txt
    subst ho
    go_enter Tryz.func164, Tryz.ntmps164
    go_wp2_with fail
    go_end0
    exact ⟨rfl, _, ⟨_, _, l, p, rfl, e2, e3, h⟩, Stp.refl _ _⟩
  · rw [if_neg hne]
    obtain ⟨g, cap, cur', hrv, hgb, hgc, hcap1, hcap2, hcur1, hcur2⟩ : ∃ g cap cur, textv = .slice (some ⟨g, 0, none⟩) text.length cap ∧ B ≤ g ∧ w.heap[g]? = some (.cells cur 5 (0, 0)) ∧ text.length ≤ cap ∧ cap ≤ maxLen ∧ cur.size = cap * 1 ∧ cur.toList.take (text.length * 1) = Lib.byteCells text := by
      rcases h.txt.2 with ⟨_, h0⟩ | h'
      · exact absurd (List.eq_nil_of_length_eq_zero h0) hne
      · exact h'
    subst hrv
    have hcv : (convert 107 9 (.slice (some ⟨g, 0, none⟩) text.length cap)).run Tryz.prog w = .ok (.string ⟨text.toArray⟩) w := own_string (w := w) h.txt 0
    have hput := hide (putN_any B r openv _ l p text w h hl hks (textN text) none none 0 0 0 0 ⟨rfl, .inl ⟨rfl, none, 0, rfl, by simp [maxLen]⟩⟩ (Ns.nil _ _ none 0 (by simp [maxLen])))
    simp only [textN, Nd.name, Nd.text] at hput
    have hpos : 0 < text.length := List.length_pos_iff.2 hne
    clear hcur1 hcur2 hgc
    unfold maxLen at hcap2
    go_enter Tryz.func164, Tryz.ntmps164
    go_wp2_with fail
    refine hput.out.mono ?_
    rintro e w1 ⟨rfl, kv3, hB1, hb1⟩
    clear hput hcv c1
    have d1 := hB1.cell1
    have f1 := hB1.free 1
    go_wp2_with fail
    go_end0
    have hst := hB1.setText (Keeps.refl _ _) (tx := []) (row_zero hB1.txt) (.inl rfl)
    exact ⟨rfl, _, ⟨_, _, l, _, rfl, e2, by simp [e3, textN], hst.1⟩, hb1.trans hst.2⟩
end Go.Proofs.YtlcljanibjdejaaGreat
namespace Go.Proofs.YtlcljanibjdejaaGreat
open Go.RowKit Go.Maps
theorem LiesP.form {w : World} {P : Nat → Prop} {v : Value} {n z : Nat} {xs : List Value} (h : LiesP w P v n z xs) : ∃ o c, v = .slice o n c := by
  obtain ⟨o, c, h, _⟩ := h.lies.form
  exact ⟨o, c, h⟩
/-- The innermost one, read out of the open row. -/
theorem Bd.last {w : World} {B r : Nat} {openv textv : Value} {l : List Po} {p : Po} {text : List UInt8} (h : Bd w B r openv textv (l ++ [p]) text) {go cap : Nat} (hv : openv = .slice (some ⟨go, 0, none⟩) (l.length + 1) cap) :
    w.cell? ⟨go, l.length * 4, none⟩ = some (.string ⟨p.o.name.toArray⟩) ∧ w.cell? ⟨go, l.length * 4 + 1, none⟩ = some p.av ∧ w.cell? ⟨go, l.length * 4 + 2, none⟩ = some (.string ⟨#[]⟩) ∧ w.cell? ⟨go, l.length * 4 + 3, none⟩ = some p.kv := by
  subst hv
  have hop := h.opn
  rw [List.length_append, List.length_singleton] at hop
  refine ⟨?_, ?_, ?_, ?_⟩
  · have := hop.cellAt (l.length * 4 + 0) (by omega)
    rw [posCells_last _ _ _ (by omega)] at this
    exact this
  · rw [hop.cellAt _ (by omega), posCells_last _ _ _ (by omega)]; rfl
  · rw [hop.cellAt _ (by omega), posCells_last _ _ _ (by omega)]; rfl
  · rw [hop.cellAt _ (by omega), posCells_last _ _ _ (by omega)]; rfl
theorem last_split {l : List Po} {o : Op} {up : List Op} (h : l.map Po.o = (o :: up).reverse) : ∃ l0 p0, l = l0 ++ [p0] ∧ l0.map Po.o = up.reverse ∧ p0.o = o := by
  rw [List.reverse_cons] at h
  obtain ⟨l0, l1, rfl, h1, h2⟩ := List.map_eq_append_iff.1 h
  obtain ⟨p0, rfl, h3⟩ := List.map_eq_singleton_iff.1 h2
  exact ⟨l0, p0, rfl, h1, h3⟩
theorem close_step (s : St) (o : Op) (up : List Op) (a : Nat) (hu : s.up = o :: up) (ha : a ≤ s.up.length) : s.close (s.up.length + 1 - a) = s.pop.close (s.pop.up.length + 1 - a) := by
  rw [pop_up, hu]
  simp only [List.length_cons, List.tail_cons]
  rw [hu] at ha
  simp only [List.length_cons] at ha
  rw [show up.length + 1 + 1 - a = (up.length + 1 - a) + 1 from by omega]
  rfl
set_option maxRecDepth 4000 in
set_option maxHeartbeats 4000000 in
theorem closeFromS_any (B r : Nat) (s : St) (T : List Nat) (a : Nat) (ha : 1 ≤ a) (ha2 : a ≤ 200000) (w : World) (h : BdT w B r s T) (hw : s.weight ≤ 100000) :
    Calls Tryz.prog 162 #[.pointer (some ⟨r, 0, none⟩), .int .i64 a] w fun e w' =>
      e = .returned (.tuple #[]) ∧ ∃ T', BdT w' B r (s.closeFrom a) T' ∧ Stp w T w' T' := by
  obtain ⟨R, hR⟩ : ∃ R, s.closeFrom a = R := ⟨_, rfl⟩
  rw [hR]
  have HR := hide hR
  clear hR
  obtain ⟨openv, textv, l, p, e1, e2, e3, hBd⟩ := id h
  obtain ⟨go, cap, hv, hgB, hgl, hc1, hc2⟩ := hBd.form
  have hul := up_len e2
  have huw := weight_up s
  have hsb : s.up.length ≤ 100000 := by omega
  subst hv
  have c0 := hBd.cell0
  rw [hul] at c0
  clear hgB hgl hc1 hc2 hBd e1 e2 e3 hul
  have Hh := hide h
  have Hw := hide hw
  clear h hw
  go_enter Tryz.func162, Tryz.ntmps162
  go_wp2_with fail
  go_loopw [4] (fun i wr => ∃ s' : St, i = .int .i64 (s'.up.length : Int) ∧ Hid (s'.weight ≤ 100000) ∧ Hid (∃ T', BdT wr B r s' T' ∧ Stp w T wr T') ∧ Hid (s'.close (s'.up.length + 1 - a) = R)) (fun i _ => (intOf i).toNat)
  case atStart => exact ⟨s, by go_num, Hw, ⟨_, Hh.out, Stp.refl _ _⟩, HR⟩
  case round =>
    obtain ⟨s', rfl, hW, hB, hC⟩ := hrel
    clear c0 huw HR Hh Hw
    have huw := weight_up s'
    have hww := hW.out
    by_cases hge : a ≤ s'.up.length
    · obtain ⟨T', hT, hbel⟩ := hB.out
      obtain ⟨o, up, hu⟩ : ∃ o up, s'.up = o :: up := by
        cases hu : s'.up with
        | nil => rw [hu] at hge; simp at hge; omega
        | cons o up => exact ⟨o, up, rfl⟩
      have hC2 := hC.out
      rw [close_step s' o up a hu hge] at hC2
      have HC := hide hC2
      have hwp := weight_pop s'
      have hpu : s'.pop.up.length = up.length := by rw [pop_up, hu]; rfl
      have het := hide (endTextS_any B r s' T' _ hT hww)
      have hsl : s'.up.length = up.length + 1 := by rw [hu]; rfl
      clear hC hC2 hB hT
      rw [hsl] at hge huw ⊢
      go_wp2_with fail
      refine het.out.mono ?_
      rintro e w1 ⟨rfl, T1, ⟨openv, textv, l, p, rfl, e2, e3, h1⟩, hb1⟩
      rw [endText_text] at h1
      rw [endText_up, hu] at e2
      obtain ⟨go1, cap1, hv1, hgB, hgl, hc1, hc2⟩ := h1.form
      have hll := congrArg List.length e2
      simp only [List.length_map, List.length_reverse, List.length_cons] at hll
      obtain ⟨q0, q1, q2, q3⟩ := h1.last hv1
      obtain ⟨oa, ca, hav⟩ := (h1.attrs p (by simp)).form
      obtain ⟨ok, ck, hkv⟩ := row_form (h1.kids p (by simp)).2
      obtain ⟨hp1, hp2, hp3, hp4⟩ := h1.pop hv1
      obtain ⟨l0, p0, rfl, f2, f3⟩ := last_split e2
      subst hv1
      have d0 := h1.cell0
      have dr := h1.free 0
      have hlt := h1.lt
      have hne : r ≠ w1.heap.size := by omega
      unfold maxLen at hc2
      rw [hll] at d0 q0 q1 q2 q3 hp1 hp2 hp3 hp4 hc1
      rw [hav] at q1 hp3
      rw [hkv] at q3 hp4
      have hub : up.length ≤ 100000 := by omega
      have hl0 : l0.length = up.length := by simpa using hll
      have hk0 : p0.ks.length ≤ 100000 := by
        rw [ks_len hp1, f3]
        have h9 : o.kids.length + 1 ≤ (s'.up.map fun o => o.kids.length + 1).sum := by rw [hu]; simp
        have h8 := hww
        unfold St.weight at h8
        rw [weight_all] at h8
        omega
      have hput := hide (fun (o9 : Obj) => putN_any B r _ textv l0 p0 [] _ (hp1.keepsNil ((Keeps.refl [] _).alloc o9)) (by omega) hk0 p.o.nd oa ok p.o.attrs.length ca p.ks.length ck (hp3.keeps ((Keeps.refl [] _).alloc o9) (fun _ _ => List.not_mem_nil)) (hp4.keeps ((Keeps.refl [] _).alloc o9) (fun _ _ => List.not_mem_nil)))
      simp only [Op.nd, Nd.name, Nd.text] at hput
      have hpop : s'.pop = ⟨up, o.put s'.endText.cur.nd, []⟩ := by unfold St.pop; rw [hu]
      have HP := hide hpop
      have E3 := hide e3
      have F3 := hide f3
      have F2 := hide f2
      clear hpop hp1 hp3 hp4 e3 f3 f2 hav hkv e2
      go_wp2_with fail
      refine (hput.out _).mono ?_
      rintro e w2 ⟨rfl, kv3, h2, hb2⟩
      clear hput het
      go_wp2_with fail
      go_roundw
      case rel =>
        refine ⟨s'.pop, by rw [hpu], Nat.le_trans hwp hww, ?_, HC⟩
        rw [HP.out]
        exact ⟨_, ⟨_, _, l0, _, rfl, F2.out, by rw [← E3.out, ← F3.out]; rfl, h2⟩, ((hbel.trans hb1).trans hp2).trans ((Stp.nil ((Keeps.refl [] _).alloc _) _).trans hb2)⟩
      case measure => simp [intOf]
    · have hRe : R = s' := by
        have := hC.out
        rw [show s'.up.length + 1 - a = 0 from by omega] at this
        exact this.symm
      have hlt : s'.up.length < a := by omega
      have hsb2 : s'.up.length ≤ 100000 := by omega
      clear hC
      go_wp2_with fail
      go_end0
      rw [hRe]
      exact ⟨rfl, hB.out⟩
theorem poName (l : List Po) (k : Nat) (hk : k < l.length) : (posCells l)[k * 4]? = some (.string ⟨l[k].o.name.toArray⟩) := by
  induction l generalizing k with
  | nil => simp at hk
  | cons p l ih =>
    have e : posCells (p :: l) = poCells p ++ posCells l := by simp [posCells]
    have h4 : (poCells p).length = 4 := rfl
    rw [e]
    cases k with
    | zero => rfl
    | succ k =>
      rw [List.getElem?_append_right (by omega), h4, show (k + 1) * 4 - 4 = k * 4 from by omega]
      exact ih k (by simpa using hk)
theorem Bd.named {w : World} {B r : Nat} {openv textv : Value} {l : List Po} {text : List UInt8} (h : Bd w B r openv textv l text) : Named w openv (l.map fun p => p.o.name) := by
  have h1 := h.opn
  rcases h1.2 with ⟨e, h0⟩ | ⟨g, cap, cur, e, hb, hg, h3, h4, _⟩
  · subst e
    refine ⟨none, 0, by simp [h0], by simp [h0], by simp [maxLen], fun i hi => ?_⟩
    simp [h0] at hi
  · subst e
    refine ⟨some ⟨g, 0, none⟩, cap, by simp, by simpa using h3, h4, fun i hi => ?_⟩
    rw [List.length_map] at hi
    refine ⟨g, 0, rfl, ?_⟩
    rw [Nat.zero_add, h1.cellAt _ (by omega), poName l i hi]
    simp
theorem names_of {l : List Po} {p : Po} {s : St} (e2 : l.map Po.o = s.up.reverse) (e3 : p.o = s.cur) : ((l ++ [p]).map fun p => p.o.name) = s.names := by
  unfold St.names St.all
  rw [← e2, ← e3]
  simp
theorem names_len (s : St) : s.names.length = s.up.length + 1 := by simp [St.names, St.all]
/-- The outermost one has no name. -/
def St.Root (s : St) : Prop := ∃ r, s.names = [] :: r
theorem innerTo_pos (is hides : List UInt8 → Bool) (ns : List (List UInt8)) (hr : ∃ r, ns = [] :: r) (h0 : is [] = false) : ∀ i, i ≤ ns.length → 1 ≤ innerTo is hides ns i := by
  obtain ⟨r, hr⟩ := hr
  intro i hi
  induction i with
  | zero => unfold innerTo; rw [hr]; simp
  | succ i ih =>
    unfold innerTo
    split
    · next h =>
      cases i with
      | zero => rw [hr] at h; simp [h0] at h
      | succ i => omega
    · split
      · rw [hr]; simp
      · exact ih (by omega)
theorem innerL_pos {is hides : List UInt8 → Bool} {ns : List (List UInt8)} (hr : ∃ r, ns = [] :: r) (h0 : is [] = false) : 1 ≤ innerL is hides ns := innerTo_pos is hides ns hr h0 _ (Nat.le_refl _)
theorem innerL_le (is hides : List UInt8 → Bool) (ns : List (List UInt8)) : innerL is hides ns ≤ ns.length := innerTo_le _ _ _ _ (Nat.le_refl _)
theorem closedL_pos {ns : List (List UInt8)} (hr : ∃ r, ns = [] :: r) (n : List UInt8) : 1 ≤ closedL ns n := by
  have h1 : 1 ≤ innerL (· == [112]) wallN ns := innerL_pos hr (by decide)
  have h2 : 1 ≤ ns.length := by obtain ⟨r, rfl⟩ := hr; simp
  unfold closedL
  split
  · refine innerL_pos ?_ (by decide)
    obtain ⟨r, rfl⟩ := hr
    have : 1 ≤ (if blockN n = true then innerL (· == [112]) wallN ([] :: r) else ([] :: r).length) := by split <;> omega
    generalize (if blockN n = true then innerL (· == [112]) wallN ([] :: r) else ([] :: r).length) = F at this
    cases F with
    | zero => omega
    | succ F => exact ⟨r.take F, by simp⟩
  · split <;> omega
theorem closedL_le (ns : List (List UInt8)) (n : List UInt8) : closedL ns n ≤ ns.length := by
  have h1 := innerL_le (· == [112]) wallN ns
  unfold closedL
  split
  · refine Nat.le_trans (innerL_le _ _ _) ?_
    rw [List.length_take]; omega
  · split <;> omega
theorem root_put (s : St) (n : Nd) : (s.put n).names = s.names := by simp [St.names, St.all, St.put, Op.put]
theorem root_endText (s : St) : s.endText.names = s.names := by
  unfold St.endText
  split
  · rfl
  · simp [St.names, St.all, Op.put]
theorem root_pop (s : St) (h : s.Root) : s.pop.Root := by
  obtain ⟨r, hr⟩ := h
  unfold St.pop
  split
  · exact ⟨r, (root_endText s).trans hr⟩
  · next o up hu =>
    have h1 : s.names = (St.names ⟨up, o.put s.endText.cur.nd, []⟩) ++ [s.cur.name] := by
      simp [St.names, St.all, hu, Op.put]
    rw [hr] at h1
    unfold St.Root
    generalize (St.names ⟨up, o.put s.endText.cur.nd, []⟩) = x at h1 ⊢
    cases x with
    | nil => simp at h1; exact absurd h1.2 (by
        intro e
        have h2 := congrArg List.length hr
        rw [names_len, hu, e] at h2
        simp at h2)
    | cons a x => simp at h1; exact ⟨x, by rw [← h1.1]⟩
theorem root_close (k : Nat) (s : St) (h : s.Root) : (s.close k).Root := by
  induction k generalizing s with
  | zero => exact h
  | succ k ih => exact ih _ (root_pop s h)
theorem root_openIn (s : St) (t : Tok) (h : s.Root) : (s.openIn t).Root := by
  obtain ⟨r, hr⟩ := h
  unfold St.openIn
  split
  · exact ⟨r, by rw [root_put, root_endText]; exact hr⟩
  · have h1 : St.names ⟨s.endText.cur :: s.up, ⟨t.name, t.attrs, []⟩, []⟩ = s.endText.names ++ [t.name] := by simp [St.names, St.all, endText_up]
    exact ⟨r ++ [t.name], by rw [h1, root_endText, hr]; rfl⟩
theorem root_step (s : St) (t : Tok) (h : s.Root) : (s.step t).Root := by
  unfold St.step
  split
  · exact h
  · split
    · unfold St.openTag
      split
      · exact root_close _ _ h
      · exact root_openIn _ _ (root_close _ _ h)
    · exact root_close _ _ h
set_option maxRecDepth 4000 in
set_option maxHeartbeats 4000000 in
theorem closeTagS_any (B r : Nat) (s : St) (T : List Nat) (n : List UInt8) (hn : n ≠ []) (w : World) (h : BdT w B r s T) (hr : s.Root) (hw : s.weight ≤ 100000) :
    Calls Tryz.prog 84 #[.pointer (some ⟨r, 0, none⟩), .string ⟨n.toArray⟩] w fun e w' =>
      e = .returned (.tuple #[]) ∧ ∃ T', BdT w' B r (s.closeTag n) T' ∧ Stp w T w' T' := by
  have hka : Keeps [] w (w.alloc (.cells #[.string ⟨n.toArray⟩] 9)) := (Keeps.refl [] w).alloc _
  have ha := h.keepsNil hka
  have hle := innerL_le (· == n) (fun _ => false) s.names
  have hpos : 1 ≤ innerL (· == n) (fun _ => false) s.names := innerL_pos hr (by simpa using Ne.symm hn)
  have hul := weight_up s
  rw [names_len] at hle
  have hcl := hide (closeFromS_any B r s T (innerL (· == n) (fun _ => false) s.names) hpos (by omega) _ ha hw)
  obtain ⟨openv, textv, l, p, rfl, e2, e3, hB⟩ := ha
  have hnm := hB.named
  rw [names_of e2 e3] at hnm
  have c0 := hB.cell0
  have hin := hide (innermost_any 169 170 #[.pointer (some ⟨w.heap.size, 0, none⟩)] #[] (· == n) (fun _ => false) _ openv s.names hnm enters169 enters170 (fun m => isName1_any m n w.heap.size _ (by simp)) (fun m => never_any m _))
  unfold St.closeTag
  have hbel := Stp.nil hka (touchB r openv textv (l ++ [p]))
  obtain ⟨go, cap, hv, _⟩ := hB.form
  subst hv
  generalize innerL (· == n) (fun _ => false) s.names = L at *
  clear hB hnm e2 e3 hka h
  go_enter Tryz.func84, Tryz.ntmps84
  go_wp2_with fail
  refine hin.out.mono ?_
  rintro e w1 ⟨rfl, h1⟩
  subst h1
  go_wp2_with fail
  refine hcl.out.mono ?_
  rintro e w2 ⟨rfl, T2, hB2, hb2⟩
  go_wp2_with fail
  go_end0
  exact ⟨rfl, T2, hB2, hbel.trans hb2⟩
theorem close_all (s : St) : (s.closeFrom 1).endText.up = [] := by
  rw [endText_up]
  unfold St.closeFrom
  rw [close_up]
  simp
set_option maxRecDepth 4000 in
set_option maxHeartbeats 4000000 in
theorem endS_any (B r : Nat) (s : St) (T : List Nat) (w : World) (h : BdT w B r s T) (hw : s.weight ≤ 100000) :
    Calls Tryz.prog 85 #[.pointer (some ⟨r, 0, none⟩)] w fun e w' =>
      ∃ v, e = .returned v ∧ Ns w' (fun g => B ≤ g) v (s.closeFrom 1).endText.cur.kids ∧ Below B w w' := by
  have hge := h.ge
  have hcl := hide (closeFromS_any B r s T 1 (Nat.le_refl _) (by decide) _ h hw)
  have hw2 : (s.closeFrom 1).weight ≤ 100000 := Nat.le_trans (weight_close _ s) hw
  have hup := close_all s
  have Hup := hide hup
  clear hup
  generalize s.closeFrom 1 = s2 at *
  go_enter Tryz.func85, Tryz.ntmps85
  go_wp2_with fail
  refine hcl.out.mono ?_
  rintro e w2 ⟨rfl, T2, hB2, hb2⟩
  have het := hide (endTextS_any B r s2 T2 _ hB2 hw2)
  clear hcl
  go_wp2_with fail
  refine het.out.mono ?_
  rintro e w3 ⟨rfl, T3, ⟨openv, textv, l, p, rfl, e2, e3, hB3⟩, hb3⟩
  rw [Hup.out] at e2
  obtain rfl : l = [] := by simpa using e2
  obtain ⟨go, cap, hv, hgB, hgl, hc1, hc2⟩ := hB3.form
  obtain ⟨q0, q1, q2, q3⟩ := hB3.last hv
  obtain ⟨ok, ck, hkv⟩ := row_form (hB3.kids p (by simp)).2
  have hN : Ns w3 (fun g => B ≤ g) p.kv s2.endText.cur.kids := by
    have hk := hB3.kids p (by simp)
    refine .mk _ p.ks _ (by rw [hk.1, e3]) (LiesP.of_row hk.2 (fun g hg => (hk.2.lt g hg).1)) (fun q hq => ?_) (fun q hq => ?_)
    · exact (hB3.done p (by simp) q hq).1.mono (fun _ _ h => h.1)
    · exact (hB3.done p (by simp) q hq).2.mono (fun _ _ h => h.1)
  have c0 := hB3.cell0
  subst hv
  simp only [List.length_nil, Nat.zero_mul, Nat.zero_add] at q3 c0 hc1
  rw [hkv] at q3 hN
  clear het e3 hkv hB3 Hup e2
  go_wp2_with fail
  go_ret
  exact ⟨_, rfl, hN, (hb2.trans hb3).below (fun g hg => (hge.1 g hg).1) hge.2⟩
end Go.Proofs.YtlcljanibjdejaaGreat
namespace Go.Proofs.YtlcljanibjdejaaGreat
open Go.RowKit Go.Maps
theorem info27 : (Tryz.prog.info? 52).map (fun i => (i.zero, i.size, i.bytes)) = some (some (.agg #[.string ⟨#[]⟩, .string ⟨#[]⟩]), 2, 32) := by kernel_rfl
/-- An append of nothing onto nothing. -/
theorem run_append_empty {P : Program} (w : World) (t ty e : TypeId) (i : TypeInfo) (ht : P.underlying t = some (.slice e)) (hi : P.info? e = some i) (a : Option Addr) (c : Nat) :
    (Builtin.append_ #[t, t] ty #[.slice none 0 0, .slice a 0 c]).run P w = .ok (.slice none 0 0) w := by
  cases a <;> simp [Builtin.append_, run_underlying ht, sizeOf, typeInfo, hi, Builtin.lenOf, Builtin.firstCells, loadCells, loadCellsFrom]
theorem wpList_append_empty {P : Program} {w : World} {ops : Array Oper} {rest : List Oper} {o : Oper} {a : Act} {Q : Exit → Act → World → Prop} (hgd : o.guard = none) (s x : Operand) (t : TypeId)
    (ho : o.op = .call { callee := .builtin .append, args := #[s, x], argTypes := #[t, t] }) (e : TypeId) (i : TypeInfo) (ht : P.underlying t = some (.slice e)) (hi : P.info? e = some i)
    (ad : Option Addr) (c : Nat) (hs : a.eval s = .slice none 0 0) (hx : a.eval x = .slice ad 0 c)
    (h : wpList P ops Q rest (a.put o.dst (.slice none 0 0)) w) : wpList P ops Q (o :: rest) a w := by
  refine wpList_plain hgd fun K hK => ?_
  have hrun := run_append_empty (P := P) w t o.type e i ht hi ad c
  unfold Oper.wp
  simp [execOp, ho, resolve, invoke, builtin, hs, hx, hrun, Result.andThen]
  exact hK _ _ h
theorem pair_one (l : List Pair) : ∀ u ∈ pairCells l, u.oneCell' = true := by
  intro u hu
  induction l with
  | nil => simp [pairCells] at hu
  | cons p l ih =>
    have e : pairCells (p :: l) = .string ⟨p.1.toArray⟩ :: .string ⟨p.2.toArray⟩ :: pairCells l := by simp [pairCells]
    rw [e] at hu
    simp only [List.mem_cons] at hu
    rcases hu with rfl | rfl | hu
    · rfl
    · rfl
    · exact ih hu
set_option maxHeartbeats 1000000 in
theorem copied_any (w : World) (v : Value) (la : List Pair) (hv : Lies w v la.length 2 (pairCells la)) (hl : la.length ≤ 2000000) :
    Calls Tryz.prog 165 #[v] w fun e w' => ∃ v', e = .returned v' ∧ w'.ownsRow w.heap.size 52 2 v' la.length (pairCells la) ∧ Keeps [] w w' := by
  obtain ⟨i0, hi, hz0, hz1, hz2⟩ := info_parts info27
  obtain ⟨o, c, rfl, h1, h2⟩ := hv.form
  unfold maxLen at h2
  by_cases h0 : la.length = 0
  · have hla : la = [] := List.eq_nil_of_length_eq_zero h0
    subst hla
    go_enter Tryz.func165, Tryz.ntmps165
    go_wp2_with (at_builtin; refine wpList_append_empty rfl _ _ 43 rfl 52 i0 Tryz.underlying43 hi o c rfl rfl ?_)
    go_ret
    exact ⟨_, rfl, World.ownsRow_nil _ _ _ _, Keeps.refl _ _⟩
  · obtain ⟨g, x, rfl, hc⟩ := hv.addr (by omega)
    have hadd : ∀ j u, (pairCells la)[j]? = some u → w.cell? ((⟨g, x, none⟩ : Addr).add j) = some u := fun j u hj => by
      have h9 := hc j u hj
      have e1 : (⟨g, x, none⟩ : Addr).add j = ⟨g, x + j, none⟩ := by by_cases hj0 : j = 0 <;> simp [Addr.add, hj0]
      rw [e1]; exact h9
    go_enter Tryz.func165, Tryz.ntmps165
    go_wp2_with (at_builtin; refine wpList_append_own _ rfl _ _ 43 rfl w.heap.size 52 i0 _ 2 32 Tryz.underlying43 hi hz0 hz1 hz2 (by kernel_rfl) (by decide) _ _ _ rfl (World.ownsRow_nil _ _ _ _) ⟨g, x, none⟩ la.length c (pairCells la) rfl hv.1 ?c1 ?c2 ?c3 ?c4 ?c5 ?_)
    case c1 => exact hadd
    case c2 => exact pair_one la
    case c3 => unfold maxLen; omega
    case c4 => omega
    case c5 => exact Nat.le_refl _
    intro v' w' ho hg _
    obtain ⟨o', c', rfl⟩ := row_form ho
    go_wp2_with fail
    go_ret
    refine ⟨_, rfl, ?_, (Keeps.refl [] w).grown hg (fun k e => by simp [Value.ownBlock] at e)⟩
    simpa using ho
end Go.Proofs.YtlcljanibjdejaaGreat

/- Is every node such as may stand? The walk, which gives up at the first that can't. -/
import Derived.Test.YtlcljanibjdejaaGreatSo17
import Derived.Lib.FieldsP
import Derived.Lib.SpaceUEq
import Derived.Lib.TrimAscii
import Derived.Lib.MapLaws
import Derived.Lib.Join
import Derived.Lib.Strings
import Derived.Laws.RangeAny
namespace Go.Proofs.YtlcljanibjdejaaGreat
open Go.RowKit Go.Maps
/-- Why nodes can't stand: 0 if all can. -/
def isE : List Nd → Int
  | [] => 0
  | .mk n a _ k :: r => if standE n a = 0 then (if isE k = 0 then isE r else isE k) else standE n a
theorem isE_cons (n : Nd) (r : List Nd) : isE (n :: r) = if standE n.name n.attrs = 0 then (if isE n.kids = 0 then isE r else isE n.kids) else standE n.name n.attrs := by
  obtain ⟨n, a, t, k⟩ := n
  rw [isE]
  rfl
theorem isE_stands : ∀ l : List Nd, isE l = 0 ↔ AllSt l
  | [] => by simp [isE, AllSt]
  | .mk n a _ k :: r => by
    rw [isE, AllSt, ← isE_stands k, ← isE_stands r]
    by_cases h1 : standE n a = 0
    · rw [if_pos h1]
      by_cases h2 : isE k = 0
      · rw [if_pos h2]; simp [h1, h2]
      · rw [if_neg h2]; simp [h2]
    · rw [if_neg h1]; simp [h1]
/-- A call of a function value that gives up, as a step of a region. -/
theorem step_callv_no {ops : Array Oper} {o : Oper} {a : Act} {w : World} {K : Act → World → Prop} {Q : Exit → Act → World → Prop} {E : Prop} (hg : Region.wanted o (yielded ops a.tmps) = true)
    (c : Operand) (xs : Array Operand) (ts : Array TypeId) (hop : o.op = .call { callee := .value c, args := xs, argTypes := ts }) (f : FuncId) (caps : Array Value) (hc : a.eval c = .func (.func f) #[] caps) (hE : Enters f) (args : Array Value) (hxs : xs.map a.eval = args)
    {R : Ending → World → Prop} (hcl : Calls Tryz.prog f (args ++ caps) w R) (hK : ∀ e w', R e w' → ∃ ch, e = .panicked ch ∧ Q (.panic ch) a w') :
    if Region.wanted o (yielded ops a.tmps) = true then Oper.wp Tryz.prog o a w K Q else E := by
  rw [if_pos hg]
  have hr : (execOp a.eval o).run Tryz.prog w = .ok (.enter f (args ++ caps)) w := by
    have hE' := hE (args ++ caps) w
    simp [execOp, hop, resolve, invoke, hc, Deferred.ofValue, hxs, hE']
  unfold Oper.wp
  rw [hr, Oper.upon_enter]
  refine hcl.mono fun e w' h => ?_
  obtain ⟨v, rfl, hk⟩ := hK e w' h
  exact hk
theorem enters88 : Enters 88 := enters_of Tryz.func88 (by kernel_rfl) (by kernel_rfl)
set_option maxRecDepth 4000 in
set_option maxHeartbeats 4000000 in
theorem stand1_any (w : World) (P : Nat → Prop) (v : Value) (ns : List Nd) (i : Nat) (av : Value) (hM : HasMax w) (hN : Ns w P v ns) (hi : i < ns.length) (hV : ValNs ns) :
    Calls Tryz.prog 88 #[v, .int .i64 i, av] w fun e w' => (standE ns[i].name ns[i].attrs = 0 ∧ e = .returned (.bool true) ∨ standE ns[i].name ns[i].attrs ≠ 0 ∧ e = .panicked (stopped (standE ns[i].name ns[i].attrs))) ∧ Keeps [] w w' := by
  cases hN with
  | mk _ l _ hns hl ha hk =>
  subst hns
  rw [List.length_map] at hi
  obtain ⟨o, c', rfl, h1, h2⟩ := hl.lies.form
  obtain ⟨g, x, rfl, hcl⟩ := hl.lies.addr (by omega)
  obtain ⟨a0, a1, a2, a3⟩ := lies_pn hcl i hi
  have hm := List.getElem_mem hi
  have hla := (ha _ hm).lies
  obtain ⟨oa, ca, hav⟩ := (ha _ hm).form
  obtain ⟨ok, ck, hkv⟩ := (hk _ hm).form
  have hv := (ValNs.at hV (List.mem_map_of_mem (f := Pn.nd) hm)).2.1
  rw [hav] at a1 hla
  rw [hkv] at a3
  rw [List.getElem_map]
  clear hcl hav hkv ha hk hl hm hV
  generalize l[i].nd = nd at *
  have hms := hide (mustStand_any nd.name nd.text nd.attrs oa nd.attrs.length ca (.slice ok nd.kids.length ck) w hM hla hv ⟨_, _, _, rfl⟩)
  clear hla hv
  generalize standE nd.name nd.attrs = E at *
  unfold maxLen at h2
  go_enter Tryz.func88, Tryz.ntmps88
  go_wp2_with fail
  refine hms.out.mono ?_
  rintro e w1 ⟨⟨hE, rfl⟩ | ⟨hE, rfl⟩, hk1⟩
  · go_wp2_with fail
    go_ret
    first | exact ⟨.inl ⟨hE, rfl⟩, hk1⟩ | exact ⟨.inl ⟨trivial, rfl⟩, hk1⟩
  · exact ⟨rfl, .inr ⟨hE, rfl⟩, hk1⟩
set_option maxRecDepth 8000 in
set_option maxHeartbeats 8000000 in
theorem walkE_all (P : Nat → Prop) (B1 : Nat) (h0 : 0 < B1) (hP : ∀ g, P g → g < B1) (w0 : World) (v : Value) (ns : List Nd) (h : Ns w0 P v ns) : ∀ (w : World) (L : List Nat), Keeps L w0 w → (∀ g, P g → g ∉ L) → HasMax w → ∀ (av : Value) (pl : List Pn), w.ownsRow B1 45 4 av pl.length (pnsCells pl) → B1 ≤ w.heap.size → pl.length + sizeNs ns ≤ 2000000 → ValNs ns →
    Calls Tryz.prog 171 #[v, av, .func (.func 88) #[] #[]] w fun e w' => (isE ns = 0 ∧ e = .returned (.bool true) ∨ isE ns ≠ 0 ∧ e = .panicked (stopped (isE ns))) ∧ w'.ownsRow B1 45 4 av pl.length (pnsCells pl) ∧ Keeps av.ownBlock.toList w w' := by
  induction h with
  | mk v l ns hns hl ha hk ih =>
    intro w L hkw hPL hM av pl hrow hB1 hsz hF
    have hNs : Ns w P v ns := (Ns.mk v l ns hns hl ha hk).keeps hkw hPL
    obtain ⟨R, hR⟩ : ∃ R, isE ns = R := ⟨_, rfl⟩
    rw [hR]
    have hlw := hl.keeps hkw hPL
    obtain ⟨o, c, rfl, h1, h2⟩ := hlw.lies.form
    obtain ⟨ao, ac, hav⟩ := row_form hrow
    subst hav
    unfold maxLen at h2
    have hll : l.length = ns.length := by rw [← hns, List.length_map]
    have hE := enters88
    unfold Enters at hE
    obtain ⟨i0, hi, hz0, hz1, hz2⟩ := info_parts info79
    have hpl : pl.length ≤ 2000000 := by omega
    have HNs := hide hNs
    have HL := hide hlw
    have HI := hide ih
    have HKW := hide hkw
    have HR := hide hR
    have Hns := hide hns
    have Hll := hide hll
    have Hsz := hide hsz
    have HF := hide hF
    have HA := hide ha
    have HPL := hide hPL
    have HKD := hide hk
    have HP := hide hP
    have HM := hide hM
    clear hNs hlw ih hkw hR hns hll hsz hl ha hk hPL hF hP hM
    go_enter Tryz.func171, Tryz.ntmps171
    go_wp2_with fail
    go_loopw [11] (fun i wr => ∃ (k : Nat), k ≤ l.length ∧ i = .int .i64 k ∧ Hid (wr.ownsRow B1 45 4 (.slice ao pl.length ac) pl.length (pnsCells pl)) ∧ Hid (Keeps (Value.slice ao pl.length ac).ownBlock.toList w wr) ∧ Hid (isE (ns.drop k) = R)) (fun i _ => l.length - (intOf i).toNat)
    case atStart => exact ⟨0, Nat.zero_le _, rfl, hrow, Keeps.refl _ _, HR⟩
    case round =>
      obtain ⟨k, hk, rfl, hrow', hkr, hW⟩ := hrel
      clear HR hrow
      have hPc : ∀ g, P g → g ∉ (Value.slice ao pl.length ac).ownBlock.toList := fun g hg hm => by
        have := (hrow'.out.lt g (by simpa using hm)).1
        have := HP.out g hg
        omega
      have HMr := hide (HM.out.keeps hkr.out (fun hm => by have := (hrow'.out.lt 0 (by simpa using hm)).1; omega))
      by_cases hlt : k < l.length
      · obtain ⟨g, x, hoo, hcl⟩ := (HL.out.keeps hkr.out hPc).lies.addr (by omega)
        subst hoo
        obtain ⟨a0, a1, a2, a3⟩ := lies_pn hcl k hlt
        have hkn : k < ns.length := by rw [← Hll.out]; exact hlt
        have hpn : l[k].nd = ns[k] := by
          have h9 : (l.map Pn.nd)[k]? = ns[k]? := by rw [Hns.out]
          simpa [List.getElem?_eq_getElem hlt, List.getElem?_eq_getElem hkn] using h9
        have hW1 := hW.out
        rw [List.drop_eq_getElem_cons hkn, isE_cons, ← hpn] at hW1
        have hpk := HI.out l[k] (List.getElem_mem hlt)
        have hak := (((HA.out l[k] (List.getElem_mem hlt)).keeps HKW.out HPL.out).keeps hkr.out hPc)
        have hszk : sizeNs l[k].nd.kids < sizeNs ns := sizeNs_mem (by rw [hpn]; exact List.getElem_mem hkn)
        have hFk := (ValNs.at HF.out (show l[k].nd ∈ ns from by rw [hpn]; exact List.getElem_mem hkn)).2.2
        have hkf := (HKD.out l[k] (List.getElem_mem hlt)).form
        have hvis0 : ∀ (W' : World), Keeps [] wr W' → Calls Tryz.prog 88 #[.slice (some ⟨g, x, none⟩) l.length c, .int .i64 k, .slice ao pl.length ac] W' fun e w' => (standE l[k].nd.name l[k].nd.attrs = 0 ∧ e = .returned (.bool true) ∨ standE l[k].nd.name l[k].nd.attrs ≠ 0 ∧ e = .panicked (stopped (standE l[k].nd.name l[k].nd.attrs))) ∧ Keeps [] W' w' := fun W' hkk => by
          rw [hpn]
          exact stand1_any W' P _ ns k _ (HMr.out.keeps hkk List.not_mem_nil) ((HNs.out.keeps hkr.out hPc).keeps0 hkk) hkn HF.out
        clear hcl hW
        generalize l[k] = p at *
        obtain ⟨nd, pav, pkv⟩ := p
        simp only at a0 a1 a2 a3 hpn hW1 hpk hak hszk hkf hFk hvis0
        clear hpn
        obtain ⟨qo, qc, hq⟩ := hak.form
        subst hq
        obtain ⟨ko, kc, hkv⟩ := hkf
        subst hkv
        obtain ⟨Wb, hWb⟩ : ∃ Wb, wr.alloc (.cells #[.string ⟨nd.name.toArray⟩, .slice qo nd.attrs.length qc, .string ⟨nd.text.toArray⟩, .slice ko nd.kids.length kc] 45) = Wb := ⟨_, rfl⟩
        have hka : Keeps [] wr Wb := by rw [← hWb]; exact (Keeps.refl [] wr).alloc _
        have hbx : Wb.heap[wr.heap.size]? = some (.cells #[.string ⟨nd.name.toArray⟩, .slice qo nd.attrs.length qc, .string ⟨nd.text.toArray⟩, .slice ko nd.kids.length kc] 45 (0, 0)) := by rw [← hWb]; exact heap_alloc_new wr _
        have hBr : B1 ≤ wr.heap.size := Nat.le_trans hB1 hkr.out.size
        have hbl : wr.heap.size < Wb.heap.size := lt_of_block hbx
        have hrb : ∀ g, (Value.slice ao pl.length ac).ownBlock = some g → g < wr.heap.size := fun g hg => (hrow'.out.lt g hg).2
        have hend := hide (fun (Wx : World) (hkx : Keeps [] wr Wx) {W2 : World} (hS2 : Keeps [] Wx W2) => (⟨hS2.owns (hkx.owns hrow'.out (fun _ _ => List.not_mem_nil)) (fun _ _ => List.not_mem_nil), keeps_within (keeps_within hkr.out hkx (by simp)) hS2 (by simp)⟩ : W2.ownsRow B1 45 4 (.slice ao pl.length ac) pl.length (pnsCells pl) ∧ Keeps (Value.slice ao pl.length ac).ownBlock.toList w W2))
        obtain ⟨D1, hD1⟩ : ∃ D1, standE nd.name nd.attrs = D1 := ⟨_, rfl⟩
        obtain ⟨D2, hD2⟩ : ∃ D2, isE nd.kids = D2 := ⟨_, rfl⟩
        rw [hD1] at hvis0
        rw [hD1, hD2] at hW1
        rw [hD2] at hpk
        clear hD1 hD2
        by_cases hd1 : D1 = 0
        · have hvis := hide (fun (W' : World) (hkk : Keeps [] Wb W') => (hvis0 W' (hka.trans hkk)).mono (R' := fun e w' => e = .returned (.bool true) ∧ Keeps [] W' w') (fun e w' h => ⟨h.1.elim (fun h => h.2) (fun h => absurd hd1 h.1), h.2⟩))
          rw [if_pos hd1] at hW1
          have hin := hide (fun (W' : World) (L' : List Nat) (hkk : Keeps L' w0 W') (hPL' : ∀ g, P g → g ∉ L') (hM' : HasMax W') (av' : Value) (hrow9 : W'.ownsRow B1 45 4 av' (pl ++ [(⟨nd, .slice qo nd.attrs.length qc, .slice ko nd.kids.length kc⟩ : Pn)]).length (pnsCells (pl ++ [(⟨nd, .slice qo nd.attrs.length qc, .slice ko nd.kids.length kc⟩ : Pn)]))) (hB9 : B1 ≤ W'.heap.size) => hpk W' L' hkk hPL' hM' av' (pl ++ [(⟨nd, .slice qo nd.attrs.length qc, .slice ko nd.kids.length kc⟩ : Pn)]) hrow9 hB9 (by have := Hsz.out; simp; omega) hFk)
          simp only [List.length_append, List.length_singleton] at hin
          have e0 : pnsCells (pl ++ [(⟨nd, .slice qo nd.attrs.length qc, .slice ko nd.kids.length kc⟩ : Pn)]) = pnsCells pl ++ pnCells ⟨nd, .slice qo nd.attrs.length qc, .slice ko nd.kids.length kc⟩ := by simp [pnsCells]
          rw [e0] at hin
          clear e0 hpk hvis0 hd1
          by_cases hd2 : D2 = 0
          · rw [if_pos hd2] at hW1
            have HW := hide hW1
            have HD0 := hide hd2
            clear hW1 hd2
            go_upto_region 4 with fail
            refine wp_region_any (by kernel_rfl) ?_
            change wpAny _ _ _ _ _ _ _ (World.drew _)
            refine wpAny_take (i := 0) (v := .func (.func 88) #[] #[]) rfl (by kernel_rfl) (by kernel_rfl) (by kernel_rfl) (fun _ _ _ h => h) (Or.inl ⟨by rfl, by intro w; go_simp⟩) ?_
            simp only [List.getElem_toArray, List.getElem_cons_zero, Act.put, List.setIfInBounds_toArray, List.set]
            refine wpAny_take (i := 1) (v := .slice (some ⟨g, x, none⟩) l.length c) rfl (by kernel_rfl) (by kernel_rfl) (by kernel_rfl) (fun _ _ _ h => h) (Or.inl ⟨by rfl, by intro w; go_simp⟩) ?_
            simp only [List.getElem_toArray, List.getElem_cons_zero, List.getElem_cons_succ, Act.put, List.setIfInBounds_toArray, List.set]
            refine wpAny_take (i := 2) (v := .int .i64 k) rfl (by kernel_rfl) (by kernel_rfl) (by kernel_rfl) (fun _ _ _ h => h) (Or.inl ⟨by rfl, by intro w; go_simp⟩) ?_
            simp only [List.getElem_toArray, List.getElem_cons_zero, List.getElem_cons_succ, Act.put, List.setIfInBounds_toArray, List.set]
            refine wpAny_take (i := 3) (v := .slice ao pl.length ac) rfl (by kernel_rfl) (by kernel_rfl) (by kernel_rfl) (fun _ _ _ h => h) (Or.inl ⟨by rfl, by intro w; go_simp⟩) ?_
            simp only [List.getElem_toArray, List.getElem_cons_zero, List.getElem_cons_succ, Act.put, List.setIfInBounds_toArray, List.set]
            refine wpAny_ready (rs := [4]) (by kernel_rfl) (by simp) ?_
            refine AllReady.cons rfl (fun K9 hK9 => ?_) AllReady.nil
            refine step_callv (by simp [Region.wanted]) (.tmp 16) _ _ rfl 88 #[] rfl enters88 #[.slice (some ⟨g, x, none⟩) l.length c, .int .i64 k, .slice ao pl.length ac] (by first | (simp [Act.eval]; done) | (simp [Act.eval, Act.put]; done)) (hvis.out _ ((Keeps.refl [] _).drew)) ?_
            rintro e w2 ⟨rfl, hS2⟩
            refine ⟨_, rfl, ?_⟩
            refine hK9 _ _ ?_
            clear hK9 K9
            simp only [List.getElem_toArray, List.getElem_cons_zero, List.getElem_cons_succ, Act.put, List.setIfInBounds_toArray, List.set]
            have hbx2 : w2.heap[wr.heap.size]? = some (.cells #[.string ⟨nd.name.toArray⟩, .slice qo nd.attrs.length qc, .string ⟨nd.text.toArray⟩, .slice ko nd.kids.length kc] 45 (0, 0)) := (hS2.block _ hbl List.not_mem_nil).trans hbx
            have hrow2 := (hend.out _ (hka.trans ((Keeps.refl [] _).drew)) hS2).1
            have hkp2 := (hend.out _ (hka.trans ((Keeps.refl [] _).drew)) hS2).2
            have hM2 : HasMax w2 := (HMr.out.keeps hka List.not_mem_nil).keeps (((Keeps.refl [] _).drew).trans hS2) List.not_mem_nil
            have k0 : w2.cell? ⟨wr.heap.size, 0, none⟩ = some (.string ⟨nd.name.toArray⟩) := cell_blk hbx2 0
            have k1 : w2.cell? ⟨wr.heap.size, 1, none⟩ = some (.slice qo nd.attrs.length qc) := cell_blk hbx2 1
            have k2 : w2.cell? ⟨wr.heap.size, 2, none⟩ = some (.string ⟨nd.text.toArray⟩) := cell_blk hbx2 2
            have k3 : w2.cell? ⟨wr.heap.size, 3, none⟩ = some (.slice ko nd.kids.length kc) := cell_blk hbx2 3
            have hbl2 : wr.heap.size < w2.heap.size := lt_of_block hbx2
            have k3a : ∀ o', (w2.alloc o').cell? ⟨wr.heap.size, 3, none⟩ = some (.slice ko nd.kids.length kc) := fun o' => (cell_past (a := ⟨wr.heap.size, 3, none⟩) hbl2 o').trans k3
            have hB2 : B1 ≤ w2.heap.size := by omega
            refine wpAny_take (i := 5) (v := .bool false) rfl (by kernel_rfl) (by kernel_rfl) (by kernel_rfl) (fun _ _ _ h => h) (Or.inl ⟨by rfl, by intro w; go_simp⟩) ?_
            simp only [List.getElem_toArray, List.getElem_cons_zero, List.getElem_cons_succ, Act.put, List.setIfInBounds_toArray, List.set]
            refine wpAny_take (i := 6) (v := .bool false) rfl (by kernel_rfl) (by kernel_rfl) (by kernel_rfl) (fun _ _ _ h => h) (Or.inl ⟨by rfl, by intro w; go_simp⟩) ?_
            simp only [List.getElem_toArray, List.getElem_cons_zero, List.getElem_cons_succ, Act.put, List.setIfInBounds_toArray, List.set]
            refine wpAny_take (i := 7) (v := .pointer (some ⟨wr.heap.size, 3, none⟩)) rfl (by kernel_rfl) (by kernel_rfl) (by kernel_rfl) (fun _ _ _ h => h) (Or.inl ⟨wanted_yes rfl rfl rfl rfl, by intro w; go_simp⟩) ?_
            simp only [List.getElem_toArray, List.getElem_cons_zero, List.getElem_cons_succ, Act.put, List.setIfInBounds_toArray, List.set]
            refine wpAny_take (i := 9) (v := .slice ao pl.length ac) rfl (by kernel_rfl) (by kernel_rfl) (by kernel_rfl) (fun _ _ _ h => h) (Or.inl ⟨wanted_yes rfl rfl rfl rfl, by intro w; go_simp⟩) ?_
            simp only [List.getElem_toArray, List.getElem_cons_zero, List.getElem_cons_succ, Act.put, List.setIfInBounds_toArray, List.set]
            refine wpAny_take (i := 13) (v := .func (.func 88) #[] #[]) rfl (by kernel_rfl) (by kernel_rfl) (by kernel_rfl) (fun _ _ _ h => h) (Or.inl ⟨wanted_yes rfl rfl rfl rfl, by intro w; go_simp⟩) ?_
            simp only [List.getElem_toArray, List.getElem_cons_zero, List.getElem_cons_succ, Act.put, List.setIfInBounds_toArray, List.set]
            have hdeep : Hid (∀ (w4 : World) (o4 : Option Addr) (c4 : Nat), w4.ownsRow B1 45 4 (.slice o4 (pl.length + 1) c4) (pl.length + 1) (pnsCells pl ++ pnCells (⟨nd, .slice qo nd.attrs.length qc, .slice ko nd.kids.length kc⟩ : Pn)) → (w2.alloc (.cells #[.string ⟨nd.name.toArray⟩, .slice qo nd.attrs.length qc, .string ⟨nd.text.toArray⟩, .slice ko nd.kids.length kc] 45)).grownBy w4 (Value.slice ao pl.length ac).ownBlock → ((∃ g cap, Value.slice ao pl.length ac = .slice (some ⟨g, 0, none⟩) pl.length cap ∧ Value.slice o4 (pl.length + 1) c4 = .slice (some ⟨g, 0, none⟩) (pl.length + 1) cap) ∨ ((Value.slice o4 (pl.length + 1) c4).ownBlock = some (w2.alloc (.cells #[.string ⟨nd.name.toArray⟩, .slice qo nd.attrs.length qc, .string ⟨nd.text.toArray⟩, .slice ko nd.kids.length kc] 45)).heap.size ∧ Keeps [] (w2.alloc (.cells #[.string ⟨nd.name.toArray⟩, .slice qo nd.attrs.length qc, .string ⟨nd.text.toArray⟩, .slice ko nd.kids.length kc] 45)) w4)) → Calls Tryz.prog 171 (#[.slice ko nd.kids.length kc, .slice o4 (pl.length + 1) c4, .func (.func 88) #[] #[]] ++ #[]) w4 fun e w5 => e = .returned (.bool true) ∧ w5.ownsRow B1 45 4 (.slice ao pl.length ac) pl.length (pnsCells pl) ∧ Keeps (Value.slice ao pl.length ac).ownBlock.toList w w5) := by
              intro w4 o4 c4 ho4 hg4 hc4
              have hk4 : Keeps (Value.slice ao pl.length ac).ownBlock.toList w2 w4 := ((Keeps.refl _ w2).alloc _).grown hg4 (fun i e => .inl (by simp [e]))
              have hk24 : Keeps (Value.slice ao pl.length ac).ownBlock.toList w w4 := hkp2.trans hk4
              have hM4 : HasMax w4 := hM2.keeps hk4 (fun hm => by have := (hrow2.lt 0 (by simpa using hm)).1; omega)
              refine (hin.out w4 (L ++ (Value.slice ao pl.length ac).ownBlock.toList) ((HKW.out.to (fun g hg => List.mem_append_left _ hg)).trans (hk24.to (fun g hg => List.mem_append_right _ hg))) (fun g hg hm => (List.mem_append.1 hm).elim (HPL.out g hg) (hPc g hg)) hM4 (.slice o4 (pl.length + 1) c4) ho4 (Nat.le_trans hB2 hk4.size)).mono ?_
              rintro e w5 ⟨h9, hrow5, hk5⟩
              have h8 := h9.elim (fun h => h.2) (fun h => absurd HD0.out h.1)
              clear h9
              subst h8
              rcases hc4 with ⟨g4, cap4, e1, e2⟩ | ⟨e1, hk34⟩
              · rw [e1]
                rw [e2] at hrow5 hk5
                rw [e1] at hk24
                refine ⟨rfl, row_shrink (pnsCells_len pl) hrow5, keeps_within hk24 hk5 (fun g hg _ => ?_)⟩
                exact hg
              · have hr4 := hk34.owns (hrow2.alloc (.cells #[.string ⟨nd.name.toArray⟩, .slice qo nd.attrs.length qc, .string ⟨nd.text.toArray⟩, .slice ko nd.kids.length kc] 45)) (fun _ _ => List.not_mem_nil)
                have hsz9 : (w2.alloc (.cells #[.string ⟨nd.name.toArray⟩, .slice qo nd.attrs.length qc, .string ⟨nd.text.toArray⟩, .slice ko nd.kids.length kc] 45)).heap.size = w2.heap.size + 1 := by simp
                rw [hsz9] at e1
                refine ⟨rfl, hk5.owns hr4 (fun g hg hm => ?_), keeps_within hk24 hk5 (fun g hg hlt => ?_)⟩
                · rw [e1] at hm
                  simp at hm
                  have := (hrow2.lt g hg).2
                  omega
                · rw [e1] at hg
                  simp at hg
                  have := hkp2.size
                  omega
            refine wpAny_ready (rs := [8, 10]) (by kernel_rfl) (by simp) ?_
            refine AllReady.cons rfl (fun K9 hK9 => ?_) (AllReady.cons rfl (fun K9 hK9 => ?_) AllReady.nil)
            · refine step_run (v := .slice ko nd.kids.length kc) (w' := w2) (wanted_yes rfl rfl rfl rfl) (by go_simp) ?_
              refine hK9 _ _ ?_
              clear hK9 K9
              simp only [List.getElem_toArray, List.getElem_cons_zero, List.getElem_cons_succ, Act.put, List.setIfInBounds_toArray, List.set]
              refine wpAny_ready (rs := [10]) (by kernel_rfl) (by simp) ?_
              refine AllReady.cons rfl (fun K9 hK9 => ?_) AllReady.nil
              · refine step_run (v := .agg #[.string ⟨nd.name.toArray⟩, .slice qo nd.attrs.length qc, .string ⟨nd.text.toArray⟩, .slice ko nd.kids.length kc]) (w' := w2) (wanted_yes rfl rfl rfl rfl) (by go_simp) ?_
                refine hK9 _ _ ?_
                clear hK9 K9
                simp only [List.getElem_toArray, List.getElem_cons_zero, List.getElem_cons_succ, Act.put, List.setIfInBounds_toArray, List.set]
                refine wpAny_ready (rs := [11]) (by kernel_rfl) (by simp) ?_
                refine AllReady.cons rfl (fun K9 hK9 => ?_) AllReady.nil
                · refine step_run (v := .slice (some ⟨w2.heap.size, 0, none⟩) 1 1) (w' := w2.alloc (.cells #[.string ⟨nd.name.toArray⟩, .slice qo nd.attrs.length qc, .string ⟨nd.text.toArray⟩, .slice ko nd.kids.length kc] 45)) (wanted_yes rfl rfl rfl rfl) (by go_simp) ?_
                  refine hK9 _ _ ?_
                  clear hK9 K9
                  simp only [List.getElem_toArray, List.getElem_cons_zero, List.getElem_cons_succ, Act.put, List.setIfInBounds_toArray, List.set]
                  refine wpAny_ready (rs := [12]) (by kernel_rfl) (by simp) ?_
                  refine AllReady.cons rfl (fun K9 hK9 => ?_) AllReady.nil
                  · refine step_keep (wanted_yes rfl rfl rfl rfl) _ _ 29 rfl B1 45 i0 _ 4 80 Tryz.underlying29 hi hz0 hz1 hz2 (by kernel_rfl) (by decide) (.slice ao pl.length ac) pl.length (pnsCells pl) rfl (hrow2.alloc _) ⟨w2.heap.size, 0, none⟩ 1 (pnCells (⟨nd, .slice qo nd.attrs.length qc, .slice ko nd.kids.length kc⟩ : Pn)) rfl rfl (lit_cells w2 _ 45) pn_one (by unfold maxLen; omega) (by omega) (Nat.le_trans hB2 (by simp)) ?_
                    intro v4 w4 ho4 hg4 hc4
                    obtain ⟨o4, c4, hv4⟩ := row_form ho4
                    subst hv4
                    have hk4 : Keeps (Value.slice ao pl.length ac).ownBlock.toList w2 w4 := ((Keeps.refl _ w2).alloc _).grown hg4 (fun i e => .inl (by simp [e]))
                    have k3b := cell_keepsS hk4 (a := ⟨wr.heap.size, 3, none⟩) (fun hm => by have := hrb _ (by simpa using hm); simp at this) k3
                    refine hK9 _ _ ?_
                    clear hK9 K9
                    simp only [List.getElem_toArray, List.getElem_cons_zero, List.getElem_cons_succ, Act.put, List.setIfInBounds_toArray, List.set]
                    refine wpAny_ready (rs := [14]) (by kernel_rfl) (by simp) ?_
                    refine AllReady.cons rfl (fun K9 hK9 => ?_) AllReady.nil
                    · refine step_callv (wanted_yes rfl rfl rfl rfl) (.func 171) _ _ rfl 171 #[] rfl enters171 #[.slice ko nd.kids.length kc, .slice o4 (pl.length + 1) c4, .func (.func 88) #[] #[]] (by simp [Act.eval]) (hdeep.out w4 _ _ ho4 hg4 hc4) ?_
                      rintro e w5 ⟨rfl, hrow5, hk5⟩
                      refine ⟨_, rfl, ?_⟩
                      refine hK9 _ _ ?_
                      clear hK9 K9
                      simp only [List.getElem_toArray, List.getElem_cons_zero, List.getElem_cons_succ, Act.put, List.setIfInBounds_toArray, List.set]
                      refine wpAny_take (i := 15) (v := .bool false) rfl (by kernel_rfl) (by kernel_rfl) (by kernel_rfl) (fun _ _ _ h => h) (Or.inl ⟨wanted_yes rfl rfl rfl rfl, by intro w; go_simp⟩) ?_
                      simp only [List.getElem_toArray, List.getElem_cons_zero, List.getElem_cons_succ, Act.put, List.setIfInBounds_toArray, List.set]
                      refine wpAny_take (i := 16) (v := .bool false) rfl (by kernel_rfl) (by kernel_rfl) (by kernel_rfl) (fun _ _ _ h => h) (Or.inl ⟨by rfl, by intro w; go_simp⟩) ?_
                      simp only [List.getElem_toArray, List.getElem_cons_zero, List.getElem_cons_succ, Act.put, List.setIfInBounds_toArray, List.set]
                      refine wpAny_done (by kernel_rfl) ?_ _
                      go_wp2_with fail
                      go_roundw
                      case rel => exact ⟨k + 1, by omega, by go_num, hrow5, hk5, HW.out⟩
                      case measure => simp [intOf]; omega
            · refine step_run (v := .agg #[.string ⟨nd.name.toArray⟩, .slice qo nd.attrs.length qc, .string ⟨nd.text.toArray⟩, .slice ko nd.kids.length kc]) (w' := w2) (wanted_yes rfl rfl rfl rfl) (by go_simp) ?_
              refine hK9 _ _ ?_
              clear hK9 K9
              simp only [List.getElem_toArray, List.getElem_cons_zero, List.getElem_cons_succ, Act.put, List.setIfInBounds_toArray, List.set]
              refine wpAny_ready (rs := [8, 11]) (by kernel_rfl) (by simp) ?_
              refine AllReady.cons rfl (fun K9 hK9 => ?_) (AllReady.cons rfl (fun K9 hK9 => ?_) AllReady.nil)
              · refine step_run (v := .slice ko nd.kids.length kc) (w' := w2) (wanted_yes rfl rfl rfl rfl) (by go_simp) ?_
                refine hK9 _ _ ?_
                clear hK9 K9
                simp only [List.getElem_toArray, List.getElem_cons_zero, List.getElem_cons_succ, Act.put, List.setIfInBounds_toArray, List.set]
                refine wpAny_ready (rs := [11]) (by kernel_rfl) (by simp) ?_
                refine AllReady.cons rfl (fun K9 hK9 => ?_) AllReady.nil
                · refine step_run (v := .slice (some ⟨w2.heap.size, 0, none⟩) 1 1) (w' := w2.alloc (.cells #[.string ⟨nd.name.toArray⟩, .slice qo nd.attrs.length qc, .string ⟨nd.text.toArray⟩, .slice ko nd.kids.length kc] 45)) (wanted_yes rfl rfl rfl rfl) (by go_simp) ?_
                  refine hK9 _ _ ?_
                  clear hK9 K9
                  simp only [List.getElem_toArray, List.getElem_cons_zero, List.getElem_cons_succ, Act.put, List.setIfInBounds_toArray, List.set]
                  refine wpAny_ready (rs := [12]) (by kernel_rfl) (by simp) ?_
                  refine AllReady.cons rfl (fun K9 hK9 => ?_) AllReady.nil
                  · refine step_keep (wanted_yes rfl rfl rfl rfl) _ _ 29 rfl B1 45 i0 _ 4 80 Tryz.underlying29 hi hz0 hz1 hz2 (by kernel_rfl) (by decide) (.slice ao pl.length ac) pl.length (pnsCells pl) rfl (hrow2.alloc _) ⟨w2.heap.size, 0, none⟩ 1 (pnCells (⟨nd, .slice qo nd.attrs.length qc, .slice ko nd.kids.length kc⟩ : Pn)) rfl rfl (lit_cells w2 _ 45) pn_one (by unfold maxLen; omega) (by omega) (Nat.le_trans hB2 (by simp)) ?_
                    intro v4 w4 ho4 hg4 hc4
                    obtain ⟨o4, c4, hv4⟩ := row_form ho4
                    subst hv4
                    have hk4 : Keeps (Value.slice ao pl.length ac).ownBlock.toList w2 w4 := ((Keeps.refl _ w2).alloc _).grown hg4 (fun i e => .inl (by simp [e]))
                    have k3b := cell_keepsS hk4 (a := ⟨wr.heap.size, 3, none⟩) (fun hm => by have := hrb _ (by simpa using hm); simp at this) k3
                    refine hK9 _ _ ?_
                    clear hK9 K9
                    simp only [List.getElem_toArray, List.getElem_cons_zero, List.getElem_cons_succ, Act.put, List.setIfInBounds_toArray, List.set]
                    refine wpAny_ready (rs := [14]) (by kernel_rfl) (by simp) ?_
                    refine AllReady.cons rfl (fun K9 hK9 => ?_) AllReady.nil
                    · refine step_callv (wanted_yes rfl rfl rfl rfl) (.func 171) _ _ rfl 171 #[] rfl enters171 #[.slice ko nd.kids.length kc, .slice o4 (pl.length + 1) c4, .func (.func 88) #[] #[]] (by simp [Act.eval]) (hdeep.out w4 _ _ ho4 hg4 hc4) ?_
                      rintro e w5 ⟨rfl, hrow5, hk5⟩
                      refine ⟨_, rfl, ?_⟩
                      refine hK9 _ _ ?_
                      clear hK9 K9
                      simp only [List.getElem_toArray, List.getElem_cons_zero, List.getElem_cons_succ, Act.put, List.setIfInBounds_toArray, List.set]
                      refine wpAny_take (i := 15) (v := .bool false) rfl (by kernel_rfl) (by kernel_rfl) (by kernel_rfl) (fun _ _ _ h => h) (Or.inl ⟨wanted_yes rfl rfl rfl rfl, by intro w; go_simp⟩) ?_
                      simp only [List.getElem_toArray, List.getElem_cons_zero, List.getElem_cons_succ, Act.put, List.setIfInBounds_toArray, List.set]
                      refine wpAny_take (i := 16) (v := .bool false) rfl (by kernel_rfl) (by kernel_rfl) (by kernel_rfl) (fun _ _ _ h => h) (Or.inl ⟨by rfl, by intro w; go_simp⟩) ?_
                      simp only [List.getElem_toArray, List.getElem_cons_zero, List.getElem_cons_succ, Act.put, List.setIfInBounds_toArray, List.set]
                      refine wpAny_done (by kernel_rfl) ?_ _
                      go_wp2_with fail
                      go_roundw
                      case rel => exact ⟨k + 1, by omega, by go_num, hrow5, hk5, HW.out⟩
                      case measure => simp [intOf]; omega
              · refine step_run (v := .slice (some ⟨w2.heap.size, 0, none⟩) 1 1) (w' := w2.alloc (.cells #[.string ⟨nd.name.toArray⟩, .slice qo nd.attrs.length qc, .string ⟨nd.text.toArray⟩, .slice ko nd.kids.length kc] 45)) (wanted_yes rfl rfl rfl rfl) (by go_simp) ?_
                refine hK9 _ _ ?_
                clear hK9 K9
                simp only [List.getElem_toArray, List.getElem_cons_zero, List.getElem_cons_succ, Act.put, List.setIfInBounds_toArray, List.set]
                refine wpAny_ready (rs := [8, 12]) (by kernel_rfl) (by simp) ?_
                refine AllReady.cons rfl (fun K9 hK9 => ?_) (AllReady.cons rfl (fun K9 hK9 => ?_) AllReady.nil)
                · refine step_run (v := .slice ko nd.kids.length kc) (w' := w2.alloc (.cells #[.string ⟨nd.name.toArray⟩, .slice qo nd.attrs.length qc, .string ⟨nd.text.toArray⟩, .slice ko nd.kids.length kc] 45)) (wanted_yes rfl rfl rfl rfl) (by go_simp) ?_
                  refine hK9 _ _ ?_
                  clear hK9 K9
                  simp only [List.getElem_toArray, List.getElem_cons_zero, List.getElem_cons_succ, Act.put, List.setIfInBounds_toArray, List.set]
                  refine wpAny_ready (rs := [12]) (by kernel_rfl) (by simp) ?_
                  refine AllReady.cons rfl (fun K9 hK9 => ?_) AllReady.nil
                  · refine step_keep (wanted_yes rfl rfl rfl rfl) _ _ 29 rfl B1 45 i0 _ 4 80 Tryz.underlying29 hi hz0 hz1 hz2 (by kernel_rfl) (by decide) (.slice ao pl.length ac) pl.length (pnsCells pl) rfl (hrow2.alloc _) ⟨w2.heap.size, 0, none⟩ 1 (pnCells (⟨nd, .slice qo nd.attrs.length qc, .slice ko nd.kids.length kc⟩ : Pn)) rfl rfl (lit_cells w2 _ 45) pn_one (by unfold maxLen; omega) (by omega) (Nat.le_trans hB2 (by simp)) ?_
                    intro v4 w4 ho4 hg4 hc4
                    obtain ⟨o4, c4, hv4⟩ := row_form ho4
                    subst hv4
                    have hk4 : Keeps (Value.slice ao pl.length ac).ownBlock.toList w2 w4 := ((Keeps.refl _ w2).alloc _).grown hg4 (fun i e => .inl (by simp [e]))
                    have k3b := cell_keepsS hk4 (a := ⟨wr.heap.size, 3, none⟩) (fun hm => by have := hrb _ (by simpa using hm); simp at this) k3
                    refine hK9 _ _ ?_
                    clear hK9 K9
                    simp only [List.getElem_toArray, List.getElem_cons_zero, List.getElem_cons_succ, Act.put, List.setIfInBounds_toArray, List.set]
                    refine wpAny_ready (rs := [14]) (by kernel_rfl) (by simp) ?_
                    refine AllReady.cons rfl (fun K9 hK9 => ?_) AllReady.nil
                    · refine step_callv (wanted_yes rfl rfl rfl rfl) (.func 171) _ _ rfl 171 #[] rfl enters171 #[.slice ko nd.kids.length kc, .slice o4 (pl.length + 1) c4, .func (.func 88) #[] #[]] (by simp [Act.eval]) (hdeep.out w4 _ _ ho4 hg4 hc4) ?_
                      rintro e w5 ⟨rfl, hrow5, hk5⟩
                      refine ⟨_, rfl, ?_⟩
                      refine hK9 _ _ ?_
                      clear hK9 K9
                      simp only [List.getElem_toArray, List.getElem_cons_zero, List.getElem_cons_succ, Act.put, List.setIfInBounds_toArray, List.set]
                      refine wpAny_take (i := 15) (v := .bool false) rfl (by kernel_rfl) (by kernel_rfl) (by kernel_rfl) (fun _ _ _ h => h) (Or.inl ⟨wanted_yes rfl rfl rfl rfl, by intro w; go_simp⟩) ?_
                      simp only [List.getElem_toArray, List.getElem_cons_zero, List.getElem_cons_succ, Act.put, List.setIfInBounds_toArray, List.set]
                      refine wpAny_take (i := 16) (v := .bool false) rfl (by kernel_rfl) (by kernel_rfl) (by kernel_rfl) (fun _ _ _ h => h) (Or.inl ⟨by rfl, by intro w; go_simp⟩) ?_
                      simp only [List.getElem_toArray, List.getElem_cons_zero, List.getElem_cons_succ, Act.put, List.setIfInBounds_toArray, List.set]
                      refine wpAny_done (by kernel_rfl) ?_ _
                      go_wp2_with fail
                      go_roundw
                      case rel => exact ⟨k + 1, by omega, by go_num, hrow5, hk5, HW.out⟩
                      case measure => simp [intOf]; omega
                · refine step_keep (wanted_yes rfl rfl rfl rfl) _ _ 29 rfl B1 45 i0 _ 4 80 Tryz.underlying29 hi hz0 hz1 hz2 (by kernel_rfl) (by decide) (.slice ao pl.length ac) pl.length (pnsCells pl) rfl (hrow2.alloc _) ⟨w2.heap.size, 0, none⟩ 1 (pnCells (⟨nd, .slice qo nd.attrs.length qc, .slice ko nd.kids.length kc⟩ : Pn)) rfl rfl (lit_cells w2 _ 45) pn_one (by unfold maxLen; omega) (by omega) (Nat.le_trans hB2 (by simp)) ?_
                  intro v4 w4 ho4 hg4 hc4
                  obtain ⟨o4, c4, hv4⟩ := row_form ho4
                  subst hv4
                  have hk4 : Keeps (Value.slice ao pl.length ac).ownBlock.toList w2 w4 := ((Keeps.refl _ w2).alloc _).grown hg4 (fun i e => .inl (by simp [e]))
                  have k3b := cell_keepsS hk4 (a := ⟨wr.heap.size, 3, none⟩) (fun hm => by have := hrb _ (by simpa using hm); simp at this) k3
                  refine hK9 _ _ ?_
                  clear hK9 K9
                  simp only [List.getElem_toArray, List.getElem_cons_zero, List.getElem_cons_succ, Act.put, List.setIfInBounds_toArray, List.set]
                  refine wpAny_ready (rs := [8]) (by kernel_rfl) (by simp) ?_
                  refine AllReady.cons rfl (fun K9 hK9 => ?_) AllReady.nil
                  · refine step_run (v := .slice ko nd.kids.length kc) (w' := w4) (wanted_yes rfl rfl rfl rfl) (by go_simp) ?_
                    refine hK9 _ _ ?_
                    clear hK9 K9
                    simp only [List.getElem_toArray, List.getElem_cons_zero, List.getElem_cons_succ, Act.put, List.setIfInBounds_toArray, List.set]
                    refine wpAny_ready (rs := [14]) (by kernel_rfl) (by simp) ?_
                    refine AllReady.cons rfl (fun K9 hK9 => ?_) AllReady.nil
                    · refine step_callv (wanted_yes rfl rfl rfl rfl) (.func 171) _ _ rfl 171 #[] rfl enters171 #[.slice ko nd.kids.length kc, .slice o4 (pl.length + 1) c4, .func (.func 88) #[] #[]] (by simp [Act.eval]) (hdeep.out w4 _ _ ho4 hg4 hc4) ?_
                      rintro e w5 ⟨rfl, hrow5, hk5⟩
                      refine ⟨_, rfl, ?_⟩
                      refine hK9 _ _ ?_
                      clear hK9 K9
                      simp only [List.getElem_toArray, List.getElem_cons_zero, List.getElem_cons_succ, Act.put, List.setIfInBounds_toArray, List.set]
                      refine wpAny_take (i := 15) (v := .bool false) rfl (by kernel_rfl) (by kernel_rfl) (by kernel_rfl) (fun _ _ _ h => h) (Or.inl ⟨wanted_yes rfl rfl rfl rfl, by intro w; go_simp⟩) ?_
                      simp only [List.getElem_toArray, List.getElem_cons_zero, List.getElem_cons_succ, Act.put, List.setIfInBounds_toArray, List.set]
                      refine wpAny_take (i := 16) (v := .bool false) rfl (by kernel_rfl) (by kernel_rfl) (by kernel_rfl) (fun _ _ _ h => h) (Or.inl ⟨by rfl, by intro w; go_simp⟩) ?_
                      simp only [List.getElem_toArray, List.getElem_cons_zero, List.getElem_cons_succ, Act.put, List.setIfInBounds_toArray, List.set]
                      refine wpAny_done (by kernel_rfl) ?_ _
                      go_wp2_with fail
                      go_roundw
                      case rel => exact ⟨k + 1, by omega, by go_num, hrow5, hk5, HW.out⟩
                      case measure => simp [intOf]; omega
          · rw [if_neg hd2] at hW1
            have HDR := hide hW1
            have HR0 := hide (show R ≠ 0 from by rw [← hW1]; exact hd2)
            have HD0 := hide hd2
            clear hW1 hd2
            go_upto_region 4 with fail
            refine wp_region_any (by kernel_rfl) ?_
            change wpAny _ _ _ _ _ _ _ (World.drew _)
            refine wpAny_take (i := 0) (v := .func (.func 88) #[] #[]) rfl (by kernel_rfl) (by kernel_rfl) (by kernel_rfl) (fun _ _ _ h => h) (Or.inl ⟨by rfl, by intro w; go_simp⟩) ?_
            simp only [List.getElem_toArray, List.getElem_cons_zero, Act.put, List.setIfInBounds_toArray, List.set]
            refine wpAny_take (i := 1) (v := .slice (some ⟨g, x, none⟩) l.length c) rfl (by kernel_rfl) (by kernel_rfl) (by kernel_rfl) (fun _ _ _ h => h) (Or.inl ⟨by rfl, by intro w; go_simp⟩) ?_
            simp only [List.getElem_toArray, List.getElem_cons_zero, List.getElem_cons_succ, Act.put, List.setIfInBounds_toArray, List.set]
            refine wpAny_take (i := 2) (v := .int .i64 k) rfl (by kernel_rfl) (by kernel_rfl) (by kernel_rfl) (fun _ _ _ h => h) (Or.inl ⟨by rfl, by intro w; go_simp⟩) ?_
            simp only [List.getElem_toArray, List.getElem_cons_zero, List.getElem_cons_succ, Act.put, List.setIfInBounds_toArray, List.set]
            refine wpAny_take (i := 3) (v := .slice ao pl.length ac) rfl (by kernel_rfl) (by kernel_rfl) (by kernel_rfl) (fun _ _ _ h => h) (Or.inl ⟨by rfl, by intro w; go_simp⟩) ?_
            simp only [List.getElem_toArray, List.getElem_cons_zero, List.getElem_cons_succ, Act.put, List.setIfInBounds_toArray, List.set]
            refine wpAny_ready (rs := [4]) (by kernel_rfl) (by simp) ?_
            refine AllReady.cons rfl (fun K9 hK9 => ?_) AllReady.nil
            refine step_callv (by simp [Region.wanted]) (.tmp 16) _ _ rfl 88 #[] rfl enters88 #[.slice (some ⟨g, x, none⟩) l.length c, .int .i64 k, .slice ao pl.length ac] (by first | (simp [Act.eval]; done) | (simp [Act.eval, Act.put]; done)) (hvis.out _ ((Keeps.refl [] _).drew)) ?_
            rintro e w2 ⟨rfl, hS2⟩
            refine ⟨_, rfl, ?_⟩
            refine hK9 _ _ ?_
            clear hK9 K9
            simp only [List.getElem_toArray, List.getElem_cons_zero, List.getElem_cons_succ, Act.put, List.setIfInBounds_toArray, List.set]
            have hbx2 : w2.heap[wr.heap.size]? = some (.cells #[.string ⟨nd.name.toArray⟩, .slice qo nd.attrs.length qc, .string ⟨nd.text.toArray⟩, .slice ko nd.kids.length kc] 45 (0, 0)) := (hS2.block _ hbl List.not_mem_nil).trans hbx
            have hrow2 := (hend.out _ (hka.trans ((Keeps.refl [] _).drew)) hS2).1
            have hkp2 := (hend.out _ (hka.trans ((Keeps.refl [] _).drew)) hS2).2
            have hM2 : HasMax w2 := (HMr.out.keeps hka List.not_mem_nil).keeps (((Keeps.refl [] _).drew).trans hS2) List.not_mem_nil
            have k0 : w2.cell? ⟨wr.heap.size, 0, none⟩ = some (.string ⟨nd.name.toArray⟩) := cell_blk hbx2 0
            have k1 : w2.cell? ⟨wr.heap.size, 1, none⟩ = some (.slice qo nd.attrs.length qc) := cell_blk hbx2 1
            have k2 : w2.cell? ⟨wr.heap.size, 2, none⟩ = some (.string ⟨nd.text.toArray⟩) := cell_blk hbx2 2
            have k3 : w2.cell? ⟨wr.heap.size, 3, none⟩ = some (.slice ko nd.kids.length kc) := cell_blk hbx2 3
            have hbl2 : wr.heap.size < w2.heap.size := lt_of_block hbx2
            have k3a : ∀ o', (w2.alloc o').cell? ⟨wr.heap.size, 3, none⟩ = some (.slice ko nd.kids.length kc) := fun o' => (cell_past (a := ⟨wr.heap.size, 3, none⟩) hbl2 o').trans k3
            have hB2 : B1 ≤ w2.heap.size := by omega
            refine wpAny_take (i := 5) (v := .bool false) rfl (by kernel_rfl) (by kernel_rfl) (by kernel_rfl) (fun _ _ _ h => h) (Or.inl ⟨by rfl, by intro w; go_simp⟩) ?_
            simp only [List.getElem_toArray, List.getElem_cons_zero, List.getElem_cons_succ, Act.put, List.setIfInBounds_toArray, List.set]
            refine wpAny_take (i := 6) (v := .bool false) rfl (by kernel_rfl) (by kernel_rfl) (by kernel_rfl) (fun _ _ _ h => h) (Or.inl ⟨by rfl, by intro w; go_simp⟩) ?_
            simp only [List.getElem_toArray, List.getElem_cons_zero, List.getElem_cons_succ, Act.put, List.setIfInBounds_toArray, List.set]
            refine wpAny_take (i := 7) (v := .pointer (some ⟨wr.heap.size, 3, none⟩)) rfl (by kernel_rfl) (by kernel_rfl) (by kernel_rfl) (fun _ _ _ h => h) (Or.inl ⟨wanted_yes rfl rfl rfl rfl, by intro w; go_simp⟩) ?_
            simp only [List.getElem_toArray, List.getElem_cons_zero, List.getElem_cons_succ, Act.put, List.setIfInBounds_toArray, List.set]
            refine wpAny_take (i := 9) (v := .slice ao pl.length ac) rfl (by kernel_rfl) (by kernel_rfl) (by kernel_rfl) (fun _ _ _ h => h) (Or.inl ⟨wanted_yes rfl rfl rfl rfl, by intro w; go_simp⟩) ?_
            simp only [List.getElem_toArray, List.getElem_cons_zero, List.getElem_cons_succ, Act.put, List.setIfInBounds_toArray, List.set]
            refine wpAny_take (i := 13) (v := .func (.func 88) #[] #[]) rfl (by kernel_rfl) (by kernel_rfl) (by kernel_rfl) (fun _ _ _ h => h) (Or.inl ⟨wanted_yes rfl rfl rfl rfl, by intro w; go_simp⟩) ?_
            simp only [List.getElem_toArray, List.getElem_cons_zero, List.getElem_cons_succ, Act.put, List.setIfInBounds_toArray, List.set]
            have hdeep : Hid (∀ (w4 : World) (o4 : Option Addr) (c4 : Nat), w4.ownsRow B1 45 4 (.slice o4 (pl.length + 1) c4) (pl.length + 1) (pnsCells pl ++ pnCells (⟨nd, .slice qo nd.attrs.length qc, .slice ko nd.kids.length kc⟩ : Pn)) → (w2.alloc (.cells #[.string ⟨nd.name.toArray⟩, .slice qo nd.attrs.length qc, .string ⟨nd.text.toArray⟩, .slice ko nd.kids.length kc] 45)).grownBy w4 (Value.slice ao pl.length ac).ownBlock → ((∃ g cap, Value.slice ao pl.length ac = .slice (some ⟨g, 0, none⟩) pl.length cap ∧ Value.slice o4 (pl.length + 1) c4 = .slice (some ⟨g, 0, none⟩) (pl.length + 1) cap) ∨ ((Value.slice o4 (pl.length + 1) c4).ownBlock = some (w2.alloc (.cells #[.string ⟨nd.name.toArray⟩, .slice qo nd.attrs.length qc, .string ⟨nd.text.toArray⟩, .slice ko nd.kids.length kc] 45)).heap.size ∧ Keeps [] (w2.alloc (.cells #[.string ⟨nd.name.toArray⟩, .slice qo nd.attrs.length qc, .string ⟨nd.text.toArray⟩, .slice ko nd.kids.length kc] 45)) w4)) → Calls Tryz.prog 171 (#[.slice ko nd.kids.length kc, .slice o4 (pl.length + 1) c4, .func (.func 88) #[] #[]] ++ #[]) w4 fun e w5 => e = .panicked (stopped R) ∧ w5.ownsRow B1 45 4 (.slice ao pl.length ac) pl.length (pnsCells pl) ∧ Keeps (Value.slice ao pl.length ac).ownBlock.toList w w5) := by
              intro w4 o4 c4 ho4 hg4 hc4
              have hk4 : Keeps (Value.slice ao pl.length ac).ownBlock.toList w2 w4 := ((Keeps.refl _ w2).alloc _).grown hg4 (fun i e => .inl (by simp [e]))
              have hk24 : Keeps (Value.slice ao pl.length ac).ownBlock.toList w w4 := hkp2.trans hk4
              have hM4 : HasMax w4 := hM2.keeps hk4 (fun hm => by have := (hrow2.lt 0 (by simpa using hm)).1; omega)
              refine (hin.out w4 (L ++ (Value.slice ao pl.length ac).ownBlock.toList) ((HKW.out.to (fun g hg => List.mem_append_left _ hg)).trans (hk24.to (fun g hg => List.mem_append_right _ hg))) (fun g hg hm => (List.mem_append.1 hm).elim (HPL.out g hg) (hPc g hg)) hM4 (.slice o4 (pl.length + 1) c4) ho4 (Nat.le_trans hB2 hk4.size)).mono ?_
              rintro e w5 ⟨h9, hrow5, hk5⟩
              have h8 := h9.elim (fun h => absurd h.1 HD0.out) (fun h => h.2.trans (by rw [HDR.out]))
              clear h9
              subst h8
              rcases hc4 with ⟨g4, cap4, e1, e2⟩ | ⟨e1, hk34⟩
              · rw [e1]
                rw [e2] at hrow5 hk5
                rw [e1] at hk24
                refine ⟨rfl, row_shrink (pnsCells_len pl) hrow5, keeps_within hk24 hk5 (fun g hg _ => ?_)⟩
                exact hg
              · have hr4 := hk34.owns (hrow2.alloc (.cells #[.string ⟨nd.name.toArray⟩, .slice qo nd.attrs.length qc, .string ⟨nd.text.toArray⟩, .slice ko nd.kids.length kc] 45)) (fun _ _ => List.not_mem_nil)
                have hsz9 : (w2.alloc (.cells #[.string ⟨nd.name.toArray⟩, .slice qo nd.attrs.length qc, .string ⟨nd.text.toArray⟩, .slice ko nd.kids.length kc] 45)).heap.size = w2.heap.size + 1 := by simp
                rw [hsz9] at e1
                refine ⟨rfl, hk5.owns hr4 (fun g hg hm => ?_), keeps_within hk24 hk5 (fun g hg hlt => ?_)⟩
                · rw [e1] at hm
                  simp at hm
                  have := (hrow2.lt g hg).2
                  omega
                · rw [e1] at hg
                  simp at hg
                  have := hkp2.size
                  omega
            refine wpAny_ready (rs := [8, 10]) (by kernel_rfl) (by simp) ?_
            refine AllReady.cons rfl (fun K9 hK9 => ?_) (AllReady.cons rfl (fun K9 hK9 => ?_) AllReady.nil)
            · refine step_run (v := .slice ko nd.kids.length kc) (w' := w2) (wanted_yes rfl rfl rfl rfl) (by go_simp) ?_
              refine hK9 _ _ ?_
              clear hK9 K9
              simp only [List.getElem_toArray, List.getElem_cons_zero, List.getElem_cons_succ, Act.put, List.setIfInBounds_toArray, List.set]
              refine wpAny_ready (rs := [10]) (by kernel_rfl) (by simp) ?_
              refine AllReady.cons rfl (fun K9 hK9 => ?_) AllReady.nil
              · refine step_run (v := .agg #[.string ⟨nd.name.toArray⟩, .slice qo nd.attrs.length qc, .string ⟨nd.text.toArray⟩, .slice ko nd.kids.length kc]) (w' := w2) (wanted_yes rfl rfl rfl rfl) (by go_simp) ?_
                refine hK9 _ _ ?_
                clear hK9 K9
                simp only [List.getElem_toArray, List.getElem_cons_zero, List.getElem_cons_succ, Act.put, List.setIfInBounds_toArray, List.set]
                refine wpAny_ready (rs := [11]) (by kernel_rfl) (by simp) ?_
                refine AllReady.cons rfl (fun K9 hK9 => ?_) AllReady.nil
                · refine step_run (v := .slice (some ⟨w2.heap.size, 0, none⟩) 1 1) (w' := w2.alloc (.cells #[.string ⟨nd.name.toArray⟩, .slice qo nd.attrs.length qc, .string ⟨nd.text.toArray⟩, .slice ko nd.kids.length kc] 45)) (wanted_yes rfl rfl rfl rfl) (by go_simp) ?_
                  refine hK9 _ _ ?_
                  clear hK9 K9
                  simp only [List.getElem_toArray, List.getElem_cons_zero, List.getElem_cons_succ, Act.put, List.setIfInBounds_toArray, List.set]
                  refine wpAny_ready (rs := [12]) (by kernel_rfl) (by simp) ?_
                  refine AllReady.cons rfl (fun K9 hK9 => ?_) AllReady.nil
                  · refine step_keep (wanted_yes rfl rfl rfl rfl) _ _ 29 rfl B1 45 i0 _ 4 80 Tryz.underlying29 hi hz0 hz1 hz2 (by kernel_rfl) (by decide) (.slice ao pl.length ac) pl.length (pnsCells pl) rfl (hrow2.alloc _) ⟨w2.heap.size, 0, none⟩ 1 (pnCells (⟨nd, .slice qo nd.attrs.length qc, .slice ko nd.kids.length kc⟩ : Pn)) rfl rfl (lit_cells w2 _ 45) pn_one (by unfold maxLen; omega) (by omega) (Nat.le_trans hB2 (by simp)) ?_
                    intro v4 w4 ho4 hg4 hc4
                    obtain ⟨o4, c4, hv4⟩ := row_form ho4
                    subst hv4
                    have hk4 : Keeps (Value.slice ao pl.length ac).ownBlock.toList w2 w4 := ((Keeps.refl _ w2).alloc _).grown hg4 (fun i e => .inl (by simp [e]))
                    have k3b := cell_keepsS hk4 (a := ⟨wr.heap.size, 3, none⟩) (fun hm => by have := hrb _ (by simpa using hm); simp at this) k3
                    refine hK9 _ _ ?_
                    clear hK9 K9
                    simp only [List.getElem_toArray, List.getElem_cons_zero, List.getElem_cons_succ, Act.put, List.setIfInBounds_toArray, List.set]
                    refine wpAny_ready (rs := [14]) (by kernel_rfl) (by simp) ?_
                    refine AllReady.cons rfl (fun K9 hK9 => ?_) AllReady.nil
                    · refine step_callv_no (wanted_yes rfl rfl rfl rfl) (.func 171) _ _ rfl 171 #[] rfl enters171 #[.slice ko nd.kids.length kc, .slice o4 (pl.length + 1) c4, .func (.func 88) #[] #[]] (by simp [Act.eval]) (hdeep.out w4 _ _ ho4 hg4 hc4) ?_
                      rintro e w5 ⟨rfl, hrow5, hk5⟩
                      refine ⟨_, rfl, ?_⟩
                      simp only [Exit.inBlock, Exit.then]
                      exact ⟨rfl, .inr ⟨HR0.out, rfl⟩, hrow5, hk5⟩
            · refine step_run (v := .agg #[.string ⟨nd.name.toArray⟩, .slice qo nd.attrs.length qc, .string ⟨nd.text.toArray⟩, .slice ko nd.kids.length kc]) (w' := w2) (wanted_yes rfl rfl rfl rfl) (by go_simp) ?_
              refine hK9 _ _ ?_
              clear hK9 K9
              simp only [List.getElem_toArray, List.getElem_cons_zero, List.getElem_cons_succ, Act.put, List.setIfInBounds_toArray, List.set]
              refine wpAny_ready (rs := [8, 11]) (by kernel_rfl) (by simp) ?_
              refine AllReady.cons rfl (fun K9 hK9 => ?_) (AllReady.cons rfl (fun K9 hK9 => ?_) AllReady.nil)
              · refine step_run (v := .slice ko nd.kids.length kc) (w' := w2) (wanted_yes rfl rfl rfl rfl) (by go_simp) ?_
                refine hK9 _ _ ?_
                clear hK9 K9
                simp only [List.getElem_toArray, List.getElem_cons_zero, List.getElem_cons_succ, Act.put, List.setIfInBounds_toArray, List.set]
                refine wpAny_ready (rs := [11]) (by kernel_rfl) (by simp) ?_
                refine AllReady.cons rfl (fun K9 hK9 => ?_) AllReady.nil
                · refine step_run (v := .slice (some ⟨w2.heap.size, 0, none⟩) 1 1) (w' := w2.alloc (.cells #[.string ⟨nd.name.toArray⟩, .slice qo nd.attrs.length qc, .string ⟨nd.text.toArray⟩, .slice ko nd.kids.length kc] 45)) (wanted_yes rfl rfl rfl rfl) (by go_simp) ?_
                  refine hK9 _ _ ?_
                  clear hK9 K9
                  simp only [List.getElem_toArray, List.getElem_cons_zero, List.getElem_cons_succ, Act.put, List.setIfInBounds_toArray, List.set]
                  refine wpAny_ready (rs := [12]) (by kernel_rfl) (by simp) ?_
                  refine AllReady.cons rfl (fun K9 hK9 => ?_) AllReady.nil
                  · refine step_keep (wanted_yes rfl rfl rfl rfl) _ _ 29 rfl B1 45 i0 _ 4 80 Tryz.underlying29 hi hz0 hz1 hz2 (by kernel_rfl) (by decide) (.slice ao pl.length ac) pl.length (pnsCells pl) rfl (hrow2.alloc _) ⟨w2.heap.size, 0, none⟩ 1 (pnCells (⟨nd, .slice qo nd.attrs.length qc, .slice ko nd.kids.length kc⟩ : Pn)) rfl rfl (lit_cells w2 _ 45) pn_one (by unfold maxLen; omega) (by omega) (Nat.le_trans hB2 (by simp)) ?_
                    intro v4 w4 ho4 hg4 hc4
                    obtain ⟨o4, c4, hv4⟩ := row_form ho4
                    subst hv4
                    have hk4 : Keeps (Value.slice ao pl.length ac).ownBlock.toList w2 w4 := ((Keeps.refl _ w2).alloc _).grown hg4 (fun i e => .inl (by simp [e]))
                    have k3b := cell_keepsS hk4 (a := ⟨wr.heap.size, 3, none⟩) (fun hm => by have := hrb _ (by simpa using hm); simp at this) k3
                    refine hK9 _ _ ?_
                    clear hK9 K9
                    simp only [List.getElem_toArray, List.getElem_cons_zero, List.getElem_cons_succ, Act.put, List.setIfInBounds_toArray, List.set]
                    refine wpAny_ready (rs := [14]) (by kernel_rfl) (by simp) ?_
                    refine AllReady.cons rfl (fun K9 hK9 => ?_) AllReady.nil
                    · refine step_callv_no (wanted_yes rfl rfl rfl rfl) (.func 171) _ _ rfl 171 #[] rfl enters171 #[.slice ko nd.kids.length kc, .slice o4 (pl.length + 1) c4, .func (.func 88) #[] #[]] (by simp [Act.eval]) (hdeep.out w4 _ _ ho4 hg4 hc4) ?_
                      rintro e w5 ⟨rfl, hrow5, hk5⟩
                      refine ⟨_, rfl, ?_⟩
                      simp only [Exit.inBlock, Exit.then]
                      exact ⟨rfl, .inr ⟨HR0.out, rfl⟩, hrow5, hk5⟩
              · refine step_run (v := .slice (some ⟨w2.heap.size, 0, none⟩) 1 1) (w' := w2.alloc (.cells #[.string ⟨nd.name.toArray⟩, .slice qo nd.attrs.length qc, .string ⟨nd.text.toArray⟩, .slice ko nd.kids.length kc] 45)) (wanted_yes rfl rfl rfl rfl) (by go_simp) ?_
                refine hK9 _ _ ?_
                clear hK9 K9
                simp only [List.getElem_toArray, List.getElem_cons_zero, List.getElem_cons_succ, Act.put, List.setIfInBounds_toArray, List.set]
                refine wpAny_ready (rs := [8, 12]) (by kernel_rfl) (by simp) ?_
                refine AllReady.cons rfl (fun K9 hK9 => ?_) (AllReady.cons rfl (fun K9 hK9 => ?_) AllReady.nil)
                · refine step_run (v := .slice ko nd.kids.length kc) (w' := w2.alloc (.cells #[.string ⟨nd.name.toArray⟩, .slice qo nd.attrs.length qc, .string ⟨nd.text.toArray⟩, .slice ko nd.kids.length kc] 45)) (wanted_yes rfl rfl rfl rfl) (by go_simp) ?_
                  refine hK9 _ _ ?_
                  clear hK9 K9
                  simp only [List.getElem_toArray, List.getElem_cons_zero, List.getElem_cons_succ, Act.put, List.setIfInBounds_toArray, List.set]
                  refine wpAny_ready (rs := [12]) (by kernel_rfl) (by simp) ?_
                  refine AllReady.cons rfl (fun K9 hK9 => ?_) AllReady.nil
                  · refine step_keep (wanted_yes rfl rfl rfl rfl) _ _ 29 rfl B1 45 i0 _ 4 80 Tryz.underlying29 hi hz0 hz1 hz2 (by kernel_rfl) (by decide) (.slice ao pl.length ac) pl.length (pnsCells pl) rfl (hrow2.alloc _) ⟨w2.heap.size, 0, none⟩ 1 (pnCells (⟨nd, .slice qo nd.attrs.length qc, .slice ko nd.kids.length kc⟩ : Pn)) rfl rfl (lit_cells w2 _ 45) pn_one (by unfold maxLen; omega) (by omega) (Nat.le_trans hB2 (by simp)) ?_
                    intro v4 w4 ho4 hg4 hc4
                    obtain ⟨o4, c4, hv4⟩ := row_form ho4
                    subst hv4
                    have hk4 : Keeps (Value.slice ao pl.length ac).ownBlock.toList w2 w4 := ((Keeps.refl _ w2).alloc _).grown hg4 (fun i e => .inl (by simp [e]))
                    have k3b := cell_keepsS hk4 (a := ⟨wr.heap.size, 3, none⟩) (fun hm => by have := hrb _ (by simpa using hm); simp at this) k3
                    refine hK9 _ _ ?_
                    clear hK9 K9
                    simp only [List.getElem_toArray, List.getElem_cons_zero, List.getElem_cons_succ, Act.put, List.setIfInBounds_toArray, List.set]
                    refine wpAny_ready (rs := [14]) (by kernel_rfl) (by simp) ?_
                    refine AllReady.cons rfl (fun K9 hK9 => ?_) AllReady.nil
                    · refine step_callv_no (wanted_yes rfl rfl rfl rfl) (.func 171) _ _ rfl 171 #[] rfl enters171 #[.slice ko nd.kids.length kc, .slice o4 (pl.length + 1) c4, .func (.func 88) #[] #[]] (by simp [Act.eval]) (hdeep.out w4 _ _ ho4 hg4 hc4) ?_
                      rintro e w5 ⟨rfl, hrow5, hk5⟩
                      refine ⟨_, rfl, ?_⟩
                      simp only [Exit.inBlock, Exit.then]
                      exact ⟨rfl, .inr ⟨HR0.out, rfl⟩, hrow5, hk5⟩
                · refine step_keep (wanted_yes rfl rfl rfl rfl) _ _ 29 rfl B1 45 i0 _ 4 80 Tryz.underlying29 hi hz0 hz1 hz2 (by kernel_rfl) (by decide) (.slice ao pl.length ac) pl.length (pnsCells pl) rfl (hrow2.alloc _) ⟨w2.heap.size, 0, none⟩ 1 (pnCells (⟨nd, .slice qo nd.attrs.length qc, .slice ko nd.kids.length kc⟩ : Pn)) rfl rfl (lit_cells w2 _ 45) pn_one (by unfold maxLen; omega) (by omega) (Nat.le_trans hB2 (by simp)) ?_
                  intro v4 w4 ho4 hg4 hc4
                  obtain ⟨o4, c4, hv4⟩ := row_form ho4
                  subst hv4
                  have hk4 : Keeps (Value.slice ao pl.length ac).ownBlock.toList w2 w4 := ((Keeps.refl _ w2).alloc _).grown hg4 (fun i e => .inl (by simp [e]))
                  have k3b := cell_keepsS hk4 (a := ⟨wr.heap.size, 3, none⟩) (fun hm => by have := hrb _ (by simpa using hm); simp at this) k3
                  refine hK9 _ _ ?_
                  clear hK9 K9
                  simp only [List.getElem_toArray, List.getElem_cons_zero, List.getElem_cons_succ, Act.put, List.setIfInBounds_toArray, List.set]
                  refine wpAny_ready (rs := [8]) (by kernel_rfl) (by simp) ?_
                  refine AllReady.cons rfl (fun K9 hK9 => ?_) AllReady.nil
                  · refine step_run (v := .slice ko nd.kids.length kc) (w' := w4) (wanted_yes rfl rfl rfl rfl) (by go_simp) ?_
                    refine hK9 _ _ ?_
                    clear hK9 K9
                    simp only [List.getElem_toArray, List.getElem_cons_zero, List.getElem_cons_succ, Act.put, List.setIfInBounds_toArray, List.set]
                    refine wpAny_ready (rs := [14]) (by kernel_rfl) (by simp) ?_
                    refine AllReady.cons rfl (fun K9 hK9 => ?_) AllReady.nil
                    · refine step_callv_no (wanted_yes rfl rfl rfl rfl) (.func 171) _ _ rfl 171 #[] rfl enters171 #[.slice ko nd.kids.length kc, .slice o4 (pl.length + 1) c4, .func (.func 88) #[] #[]] (by simp [Act.eval]) (hdeep.out w4 _ _ ho4 hg4 hc4) ?_
                      rintro e w5 ⟨rfl, hrow5, hk5⟩
                      refine ⟨_, rfl, ?_⟩
                      simp only [Exit.inBlock, Exit.then]
                      exact ⟨rfl, .inr ⟨HR0.out, rfl⟩, hrow5, hk5⟩
        · have hvis := hide (fun (W' : World) (hkk : Keeps [] Wb W') => (hvis0 W' (hka.trans hkk)).mono (R' := fun e w' => e = .panicked (stopped D1) ∧ Keeps [] W' w') (fun e w' h => ⟨h.1.elim (fun h => absurd h.1 hd1) (fun h => h.2), h.2⟩))
          rw [if_neg hd1] at hW1
          subst hW1
          have HR0 := hide hd1
          clear hd1 hvis0 hpk
          go_upto_region 4 with fail
          refine wp_region_any (by kernel_rfl) ?_
          change wpAny _ _ _ _ _ _ _ (World.drew _)
          refine wpAny_take (i := 0) (v := .func (.func 88) #[] #[]) rfl (by kernel_rfl) (by kernel_rfl) (by kernel_rfl) (fun _ _ _ h => h) (Or.inl ⟨by rfl, by intro w; go_simp⟩) ?_
          simp only [List.getElem_toArray, List.getElem_cons_zero, Act.put, List.setIfInBounds_toArray, List.set]
          refine wpAny_take (i := 1) (v := .slice (some ⟨g, x, none⟩) l.length c) rfl (by kernel_rfl) (by kernel_rfl) (by kernel_rfl) (fun _ _ _ h => h) (Or.inl ⟨by rfl, by intro w; go_simp⟩) ?_
          simp only [List.getElem_toArray, List.getElem_cons_zero, List.getElem_cons_succ, Act.put, List.setIfInBounds_toArray, List.set]
          refine wpAny_take (i := 2) (v := .int .i64 k) rfl (by kernel_rfl) (by kernel_rfl) (by kernel_rfl) (fun _ _ _ h => h) (Or.inl ⟨by rfl, by intro w; go_simp⟩) ?_
          simp only [List.getElem_toArray, List.getElem_cons_zero, List.getElem_cons_succ, Act.put, List.setIfInBounds_toArray, List.set]
          refine wpAny_take (i := 3) (v := .slice ao pl.length ac) rfl (by kernel_rfl) (by kernel_rfl) (by kernel_rfl) (fun _ _ _ h => h) (Or.inl ⟨by rfl, by intro w; go_simp⟩) ?_
          simp only [List.getElem_toArray, List.getElem_cons_zero, List.getElem_cons_succ, Act.put, List.setIfInBounds_toArray, List.set]
          refine wpAny_ready (rs := [4]) (by kernel_rfl) (by simp) ?_
          refine AllReady.cons rfl (fun K9 hK9 => ?_) AllReady.nil
          refine step_callv_no (by simp [Region.wanted]) (.tmp 16) _ _ rfl 88 #[] rfl enters88 #[.slice (some ⟨g, x, none⟩) l.length c, .int .i64 k, .slice ao pl.length ac] (by first | (simp [Act.eval]; done) | (simp [Act.eval, Act.put]; done)) (hvis.out _ ((Keeps.refl [] _).drew)) ?_
          rintro e w2 ⟨rfl, hS2⟩
          refine ⟨_, rfl, ?_⟩
          simp only [Exit.inBlock, Exit.then]
          exact ⟨rfl, .inr ⟨HR0.out, rfl⟩, (hend.out _ (hka.trans ((Keeps.refl [] _).drew)) hS2).1, (hend.out _ (hka.trans ((Keeps.refl [] _).drew)) hS2).2⟩
      · have hRe : R = 0 := by
          have := hW.out
          rw [List.drop_eq_nil_of_le (by rw [← Hll.out]; omega), isE] at this
          exact this.symm
        subst hRe
        go_wp2_with fail
        go_ret
        exact ⟨rfl, hrow'.out, hkr.out⟩
end Go.Proofs.YtlcljanibjdejaaGreat

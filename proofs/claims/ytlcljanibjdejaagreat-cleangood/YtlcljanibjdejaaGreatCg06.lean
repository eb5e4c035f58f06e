/- CleanGood holds: for every input the law returns true, and each argument reads behind the call as it read before; no condition. A part of its proof. -/
import Derived.Test.YtlcljanibjdejaaGreatCg05
import Derived.Shelf.Strings.Builder1
namespace Go.Proofs.YtlcljanibjdejaaGreat
open Go.RowKit Go.Maps
theorem run_append_keep {P : Program} (w : World) (base : Nat) (t ty e : TypeId) (i : TypeInfo) (z : Value) (size bytes : Nat) (ht : P.underlying t = some (.slice e)) (hi : P.info? e = some i) (hz : i.zero = some z)
    (hsize : i.size = size) (hby : i.bytes = bytes) (hzs : z.cells.size = size) (hsz : 0 < size)
    (v : Value) (n : Nat) (xs : List Value) (hown : w.ownsRow base e size v n xs)
    (a : Addr) (c : Nat) (news : List Value) (hl : news.length = size) (hnews : ∀ j u, news[j]? = some u → w.cell? (a.add j) = some u) (h1 : ∀ u ∈ news, u.oneCell' = true)
    (h63 : n + 1 ≤ maxLen) (hbytes : (n + 1) * bytes ≤ 140737488355328) (hbase : base ≤ w.heap.size) :
    ∃ v' w', (Builtin.append_ #[t, t] ty #[v, .slice (some a) 1 c]).run P w = .ok v' w' ∧ w'.ownsRow base e size v' (n + 1) (xs ++ news) ∧ w.grownBy w' v.ownBlock ∧
      ((∃ g cap, v = .slice (some ⟨g, 0, none⟩) n cap ∧ v' = .slice (some ⟨g, 0, none⟩) (n + 1) cap) ∨ (v'.ownBlock = some w.heap.size ∧ Keeps [] w w')) := by
  obtain ⟨v', w', hr, h2, h3, _⟩ := run_append_own (P := P) w base t ty e i z size bytes ht hi hz hsize hby hzs hsz v n xs hown a 1 c news (by rw [hl, Nat.one_mul]) hnews h1 h63 hbytes hbase
  refine ⟨v', w', hr, h2, h3, ?_⟩
  have hsmall : n + 1 ≤ 9223372036854775807 := by simp only [maxLen] at h63; omega
  subst hsize
  subst hby
  rcases hown.2 with ⟨rfl, rfl⟩ | ⟨g, cap, cur, rfl, hbg, hg, hnc, hcm, hcs, htake⟩
  · have hr2 := run_append_nil (P := P) w t ty e i z ht hi hz a 1 c news (by rw [hl, Nat.one_mul]) hnews (by omega) (by omega) (by simp only [Nat.zero_add] at hbytes; omega)
    rw [hr] at hr2
    simp only [Result.ok.injEq] at hr2
    obtain ⟨rfl, rfl⟩ := hr2
    exact .inr ⟨rfl, ((Keeps.refl [] w).drew).alloc _⟩
  · by_cases hroom : n + 1 ≤ cap
    · have hfit : n * i.size + news.length ≤ cur.size := by
        rw [hl, hcs]
        have := Nat.mul_le_mul_right i.size hroom
        rw [Nat.add_mul, Nat.one_mul] at this
        exact this
      have hr2 := run_append_room (P := P) w t ty e i ht hi g n cap cur hg a 1 c news (by rw [hl, Nat.one_mul]) hnews h1 hroom hfit
      rw [hr] at hr2
      simp only [Result.ok.injEq] at hr2
      exact .inl ⟨g, cap, rfl, hr2.1⟩
    · have holds : ∀ j u, xs[j]? = some u → w.cell? ((⟨g, 0, none⟩ : Addr).add j) = some u := hown.cells (g := g) rfl
      have hr2 := run_append_grow (P := P) w t ty e i z ht hi hz ⟨g, 0, none⟩ n cap xs hown.1 holds a 1 c news (by rw [hl, Nat.one_mul]) hnews (by omega) (by omega) (growslice_fits (by omega) hbytes)
      rw [hr] at hr2
      simp only [Result.ok.injEq] at hr2
      obtain ⟨rfl, rfl⟩ := hr2
      exact .inr ⟨rfl, ((Keeps.refl [] w).drew).alloc _⟩
theorem step_keep {P : Program} {ops : Array Oper} {o : Oper} {a : Act} {w : World} {K : Act → World → Prop} {Q : Exit → Act → World → Prop} {E : Prop} (hg : Region.wanted o (yielded ops a.tmps) = true) (s x : Operand) (t : TypeId)
    (ho : o.op = .call { callee := .builtin .append, args := #[s, x], argTypes := #[t, t] })
    (base : Nat) (e : TypeId) (i : TypeInfo) (z : Value) (size bytes : Nat) (ht : P.underlying t = some (.slice e)) (hi : P.info? e = some i) (hz : i.zero = some z)
    (hsize : i.size = size) (hby : i.bytes = bytes) (hzs : z.cells.size = size) (hsz : 0 < size)
    (v : Value) (n : Nat) (xs : List Value) (hs : a.eval s = v) (hown : w.ownsRow base e size v n xs)
    (ad : Addr) (c : Nat) (news : List Value) (hx : a.eval x = .slice (some ad) 1 c) (hl : news.length = size) (hnews : ∀ j u, news[j]? = some u → w.cell? (ad.add j) = some u) (h1 : ∀ u ∈ news, u.oneCell' = true)
    (h63 : n + 1 ≤ maxLen) (hbytes : (n + 1) * bytes ≤ 140737488355328) (hbase : base ≤ w.heap.size)
    (h : ∀ v' w', w'.ownsRow base e size v' (n + 1) (xs ++ news) → w.grownBy w' v.ownBlock → ((∃ g cap, v = .slice (some ⟨g, 0, none⟩) n cap ∧ v' = .slice (some ⟨g, 0, none⟩) (n + 1) cap) ∨ (v'.ownBlock = some w.heap.size ∧ Keeps [] w w')) → K (a.put o.dst v') w') :
    if Region.wanted o (yielded ops a.tmps) = true then Oper.wp P o a w K Q else E := by
  rw [if_pos hg]
  obtain ⟨v', w', hr, h2, h3, h5⟩ := run_append_keep (P := P) w base t o.type e i z size bytes ht hi hz hsize hby hzs hsz v n xs hown ad c news hl hnews h1 h63 hbytes hbase
  unfold Oper.wp execOp
  simp only [ho, resolve, invoke, builtin, Sem.run_bind, Sem.run_pure, Result.andThen_ok, List.map_toArray, List.map_cons, List.map_nil, hs, hx, hr]
  exact h v' w' h2 h3 h5
theorem step_callv {ops : Array Oper} {o : Oper} {a : Act} {w : World} {K : Act → World → Prop} {Q : Exit → Act → World → Prop} {E : Prop} (hg : Region.wanted o (yielded ops a.tmps) = true)
    (c : Operand) (xs : Array Operand) (ts : Array TypeId) (hop : o.op = .call { callee := .value c, args := xs, argTypes := ts }) (f : FuncId) (caps : Array Value) (hc : a.eval c = .func (.func f) #[] caps) (hE : Enters f) (args : Array Value) (hxs : xs.map a.eval = args)
    {R : Ending → World → Prop} (hcl : Calls Tryz.prog f (args ++ caps) w R) (hK : ∀ e w', R e w' → ∃ v, e = .returned v ∧ K (a.put o.dst v) w') :
    if Region.wanted o (yielded ops a.tmps) = true then Oper.wp Tryz.prog o a w K Q else E := by
  rw [if_pos hg]
  have hr : (execOp a.eval o).run Tryz.prog w = .ok (.enter f (args ++ caps)) w := by
    have hE' := hE (args ++ caps) w
    simp [execOp, hop, resolve, invoke, hc, Deferred.ofValue, hxs, hE']
  unfold Oper.wp
  rw [hr, Oper.upon_enter]
  refine hcl.mono fun e w' h => ?_
  obtain ⟨v, rfl, hk⟩ := hK e w' h
  exact hk
def walkL {σ : Type} (f : σ → List Nd → Nat → List Nd → σ × Bool) : List Nd → List Nd → Nat → List Nd → σ → σ × Bool
  | _, [], _, _, s => (s, true)
  | b, .mk n a t k :: r, i, ar, s =>
    if (f s b i ar).2 = true then
      (if (walkL f k k 0 (ar ++ [.mk n a t k]) (f s b i ar).1).2 = true then walkL f b r (i + 1) ar (walkL f k k 0 (ar ++ [.mk n a t k]) (f s b i ar).1).1
      else ((walkL f k k 0 (ar ++ [.mk n a t k]) (f s b i ar).1).1, false))
    else ((f s b i ar).1, false)
theorem walkL_cons {σ : Type} (f : σ → List Nd → Nat → List Nd → σ × Bool) (b : List Nd) (n : Nd) (r : List Nd) (i : Nat) (ar : List Nd) (s : σ) : walkL f b (n :: r) i ar s =
    if (f s b i ar).2 = true then
      (if (walkL f n.kids n.kids 0 (ar ++ [n]) (f s b i ar).1).2 = true then walkL f b r (i + 1) ar (walkL f n.kids n.kids 0 (ar ++ [n]) (f s b i ar).1).1
      else ((walkL f n.kids n.kids 0 (ar ++ [n]) (f s b i ar).1).1, false))
    else ((f s b i ar).1, false) := by
  obtain ⟨n, a, t, k⟩ := n
  rw [walkL]
  rfl
def sizeNs : List Nd → Nat
  | [] => 0
  | .mk _ _ _ k :: r => 1 + sizeNs k + sizeNs r
theorem sizeNs_cons (n : Nd) (r : List Nd) : sizeNs (n :: r) = 1 + sizeNs n.kids + sizeNs r := by
  obtain ⟨n, a, t, k⟩ := n
  rw [sizeNs]
  rfl
theorem sizeNs_mem {n : Nd} : {ns : List Nd} → n ∈ ns → sizeNs n.kids < sizeNs ns
  | m :: r, h => by
    rw [sizeNs_cons]
    rcases List.mem_cons.1 h with rfl | h
    · omega
    · have := sizeNs_mem h; omega
structure Vis {σ : Type} (K : Nat) (caps : Array Value) (f : σ → List Nd → Nat → List Nd → σ × Bool) (I : σ → World → Prop) (S : List Nat) (B1 : Nat) (P : Nat → Prop) (F : List Nd → Prop) : Prop where
  call : ∀ (s : σ) (w : World) (v : Value) (ns : List Nd) (i : Nat) (av : Value) (pl : List Pn), I s w → Ns w P v ns → F ns → i < ns.length → w.ownsRow B1 45 4 av pl.length (pnsCells pl) → pl.length ≤ 2000000 → B1 ≤ w.heap.size →
    Calls Tryz.prog K (#[v, .int .i64 i, av] ++ caps) w fun e w' => e = .returned (.bool (f s ns i (pl.map Pn.nd)).2) ∧ I (f s ns i (pl.map Pn.nd)).1 w' ∧ Keeps S w w'
  stable : ∀ (s : σ) (w w' : World) (L : List Nat), (∀ g, g ∈ L → B1 ≤ g) → I s w → Keeps L w w' → I s w'
  down : ∀ ns, F ns → ∀ n ∈ ns, F n.kids
  low : ∀ g, g ∈ S → g < B1
  enters : Enters K
  part : ∀ g, P g → g < B1 ∧ g ∉ S
theorem enters171 : Enters 171 := enters_of Tryz.func171 (by kernel_rfl) (by kernel_rfl)
def chgW (S : List Nat) (av : Value) : List Nat := S ++ av.ownBlock.toList
theorem row_shrink {w : World} {B g cap n : Nat} {xs : List Value} {p : Pn} (hx : xs.length = n * 4) (h : w.ownsRow B 45 4 (.slice (some ⟨g, 0, none⟩) (n + 1) cap) (n + 1) (xs ++ pnCells p)) : w.ownsRow B 45 4 (.slice (some ⟨g, 0, none⟩) n cap) n xs := ownsRow_pop hx h
theorem Ns.form {w : World} {P : Nat → Prop} {v : Value} {ns : List Nd} (h : Ns w P v ns) : ∃ o c, v = .slice o ns.length c := by
  cases h with
  | mk v l ns e h ha hk =>
    obtain ⟨o, c, h⟩ := h.form
    exact ⟨o, c, by rw [h, ← e, List.length_map]⟩
theorem keeps_within {S T : List Nat} {a b c : World} (h : Keeps T a b) (k : Keeps S b c) (hS : ∀ g, g ∈ S → g < a.heap.size → g ∈ T) : Keeps T a c :=
  ⟨k.os.trans h.os, k.tape.trans h.tape, k.output.trans h.output, Nat.le_trans h.size k.size, fun i hi hT => (k.block i (Nat.lt_of_lt_of_le hi h.size) (fun hm => hT (hS i hm hi))).trans (h.block i hi hT)⟩
theorem pn_one {nd : Nd} {qo ko : Option Addr} {qn qc kn kc : Nat} : ∀ u ∈ pnCells ⟨nd, .slice qo qn qc, .slice ko kn kc⟩, u.oneCell' = true := by
  intro u hu
  simp [pnCells] at hu
  rcases hu with rfl | rfl | rfl | rfl <;> rfl
theorem put_get {A : Act} {j d : Nat} {u v : Value} (h : A.tmps[j]? = some u) (hd : d ≠ j) : (A.put (some d) v).tmps[j]? = some u := by
  simp only [Act.put]
  rw [Array.getElem?_setIfInBounds_ne hd]
  exact h
theorem put_size (A : Act) (d : Option Nat) (v : Value) : (A.put d v).tmps.size = A.tmps.size := by cases d <;> simp [Act.put]
theorem put_same {A : Act} {d : Nat} {v : Value} (h : d < A.tmps.size) : (A.put (some d) v).tmps[d]? = some v := by
  simp only [Act.put]
  rw [Array.getElem?_setIfInBounds_self_of_lt h]
theorem wanted_yes {ops : Array Oper} {A : Act} {o o6 : Oper} {b : Bool} {j d : Nat} (hg : o.guard = some (j, b)) (h6 : ops[j]? = some o6) (h7 : o6.dst = some d) (h : A.tmps[d]? = some (.bool b)) : Region.wanted o (yielded ops A.tmps) = true := by
  simp [Region.wanted, hg, yielded, h6, h7, h]
theorem step_run {P : Program} {ops : Array Oper} {o : Oper} {a : Act} {w : World} {K : Act → World → Prop} {Q : Exit → Act → World → Prop} {E : Prop} (hg : Region.wanted o (yielded ops a.tmps) = true) {v : Value} {w' : World}
    (hr : (execOp a.eval o).run P w = .ok (.value v) w') (h : K (a.put o.dst v) w') : if Region.wanted o (yielded ops a.tmps) = true then Oper.wp P o a w K Q else E := by
  rw [if_pos hg]
  unfold Oper.wp
  rw [hr]
  exact h
theorem wanted_no {ops : Array Oper} {A : Act} {o o6 : Oper} {b c : Bool} {j d : Nat} (hg : o.guard = some (j, b)) (h6 : ops[j]? = some o6) (h7 : o6.dst = some d) (h : A.tmps[d]? = some (.bool c)) (hbc : c ≠ b) : Region.wanted o (yielded ops A.tmps) = false := by
  simp [Region.wanted, hg, yielded, h6, h7, h, hbc]
set_option maxRecDepth 8000 in
set_option maxHeartbeats 8000000 in
theorem walk_all {σ : Type} {K : Nat} {caps : Array Value} {f : σ → List Nd → Nat → List Nd → σ × Bool} {I : σ → World → Prop} {S : List Nat} {B1 : Nat} {P : Nat → Prop} {F : List Nd → Prop} (V : Vis K caps f I S B1 P F)
    (w0 : World) (v : Value) (ns : List Nd) (h : Ns w0 P v ns) : ∀ (w : World) (L : List Nat), Keeps L w0 w → (∀ g, P g → g ∉ L) → ∀ (s : σ) (av : Value) (pl : List Pn), I s w → w.ownsRow B1 45 4 av pl.length (pnsCells pl) → B1 ≤ w.heap.size → pl.length + sizeNs ns ≤ 2000000 → F ns →
    Calls Tryz.prog 171 #[v, av, .func (.func K) #[] caps] w fun e w' => e = .returned (.bool (walkL f ns ns 0 (pl.map Pn.nd) s).2) ∧ I (walkL f ns ns 0 (pl.map Pn.nd) s).1 w' ∧ w'.ownsRow B1 45 4 av pl.length (pnsCells pl) ∧ Keeps (chgW S av) w w' := by
  induction h with
  | mk v l ns hns hl ha hk ih =>
    intro w L hkw hPL s av pl hI hrow hB1 hsz hF
    have hNs : Ns w P v ns := (Ns.mk v l ns hns hl ha hk).keeps hkw hPL
    obtain ⟨R, hR⟩ : ∃ R, walkL f ns ns 0 (pl.map Pn.nd) s = R := ⟨_, rfl⟩
    rw [hR]
    have hlw := hl.keeps hkw hPL
    obtain ⟨o, c, rfl, h1, h2⟩ := hlw.lies.form
    obtain ⟨ao, ac, hav⟩ := row_form hrow
    subst hav
    unfold maxLen at h2
    have hll : l.length = ns.length := by rw [← hns, List.length_map]
    have hE := V.enters
    unfold Enters at hE
    obtain ⟨i0, hi, hz0, hz1, hz2⟩ := info_parts info79
    have hpl : pl.length ≤ 2000000 := by omega
    have HNs := hide hNs
    have HL := hide hlw
    have HI := hide ih
    have HKW := hide hkw
    have HR := hide hR
    have Hns := hide hns
    have Hll := hide hll
    have Hsz := hide hsz
    have HF := hide hF
    have HA := hide ha
    have HPL := hide hPL
    have HKD := hide hk
    clear hNs hlw ih hkw hR hns hll hsz hl ha hk hPL hF
    go_enter Tryz.func171, Tryz.ntmps171
    go_wp2_with fail
    go_loopw [11] (fun i wr => ∃ (k : Nat) (s' : σ), k ≤ l.length ∧ i = .int .i64 k ∧ Hid (I s' wr) ∧ Hid (wr.ownsRow B1 45 4 (.slice ao pl.length ac) pl.length (pnsCells pl)) ∧ Hid (Keeps (chgW S (.slice ao pl.length ac)) w wr) ∧ Hid (walkL f ns (ns.drop k) k (pl.map Pn.nd) s' = R)) (fun i _ => l.length - (intOf i).toNat)
    case atStart => exact ⟨0, s, Nat.zero_le _, rfl, hI, hrow, Keeps.refl _ _, HR⟩
    case round =>
      obtain ⟨k, s', hk, rfl, hI', hrow', hkr, hW⟩ := hrel
      clear HR hI hrow
      have hPc : ∀ g, P g → g ∉ chgW S (.slice ao pl.length ac) := fun g hg hm => by
        rcases List.mem_append.1 hm with hm | hm
        · exact (V.part g hg).2 hm
        · have := (hrow'.out.lt g (by simpa using hm)).1
          have := (V.part g hg).1
          omega
      by_cases hlt : k < l.length
      · obtain ⟨g, x, hoo, hcl⟩ := (HL.out.keeps hkr.out hPc).lies.addr (by omega)
        subst hoo
        obtain ⟨a0, a1, a2, a3⟩ := lies_pn hcl k hlt
        have hkn : k < ns.length := by rw [← Hll.out]; exact hlt
        have hpn : l[k].nd = ns[k] := by
          have h9 : (l.map Pn.nd)[k]? = ns[k]? := by rw [Hns.out]
          simpa [List.getElem?_eq_getElem hlt, List.getElem?_eq_getElem hkn] using h9
        have hW1 := hW.out
        rw [List.drop_eq_getElem_cons hkn, walkL_cons, ← hpn] at hW1
        have hpk := HI.out l[k] (List.getElem_mem hlt)
        have hak := (((HA.out l[k] (List.getElem_mem hlt)).keeps HKW.out HPL.out).keeps hkr.out hPc)
        have hszk : sizeNs l[k].nd.kids < sizeNs ns := sizeNs_mem (by rw [hpn]; exact List.getElem_mem hkn)
        have hFk := V.down ns HF.out l[k].nd (by rw [hpn]; exact List.getElem_mem hkn)
        have hkf := (HKD.out l[k] (List.getElem_mem hlt)).form
        clear hcl hW
        generalize l[k] = p at *
        obtain ⟨nd, pav, pkv⟩ := p
        simp only at a0 a1 a2 a3 hpn hW1 hpk hak hszk hkf hFk
        clear hpn
        obtain ⟨qo, qc, hq⟩ := hak.form
        subst hq
        obtain ⟨ko, kc, hkv⟩ := hkf
        subst hkv
        obtain ⟨Wb, hWb⟩ : ∃ Wb, wr.alloc (.cells #[.string ⟨nd.name.toArray⟩, .slice qo nd.attrs.length qc, .string ⟨nd.text.toArray⟩, .slice ko nd.kids.length kc] 45) = Wb := ⟨_, rfl⟩
        have hka : Keeps [] wr Wb := by rw [← hWb]; exact (Keeps.refl [] wr).alloc _
        have hbx : Wb.heap[wr.heap.size]? = some (.cells #[.string ⟨nd.name.toArray⟩, .slice qo nd.attrs.length qc, .string ⟨nd.text.toArray⟩, .slice ko nd.kids.length kc] 45 (0, 0)) := by rw [← hWb]; exact heap_alloc_new wr _
        have hBr : B1 ≤ wr.heap.size := Nat.le_trans hB1 hkr.out.size
        have hbl : wr.heap.size < Wb.heap.size := lt_of_block hbx
        have hvis := hide (fun (W' : World) (hkk : Keeps [] Wb W') => V.call s' W' (.slice (some ⟨g, x, none⟩) l.length c) ns k (.slice ao pl.length ac) pl (V.stable s' wr W' [] (by simp) hI'.out (hka.trans hkk)) ((HNs.out.keeps hkr.out hPc).keeps0 (hka.trans hkk)) HF.out hkn ((hka.trans hkk).owns hrow'.out (fun _ _ => List.not_mem_nil)) hpl (Nat.le_trans hBr (hka.trans hkk).size))
        have hSl := V.low
        have hst := V.stable
        have hrb : ∀ g, (Value.slice ao pl.length ac).ownBlock = some g → g < wr.heap.size := fun g hg => (hrow'.out.lt g hg).2
        have hend := hide (fun (Wx : World) (hkx : Keeps [] wr Wx) {W2 : World} (hS2 : Keeps S Wx W2) => (⟨hS2.owns (hkx.owns hrow'.out (fun _ _ => List.not_mem_nil)) (fun g hg hm => by have := hSl g hm; have := (hrow'.out.lt g hg).1; omega), keeps_within (keeps_within hkr.out hkx (by simp)) hS2 (fun g hg _ => List.mem_append_left _ hg)⟩ : W2.ownsRow B1 45 4 (.slice ao pl.length ac) pl.length (pnsCells pl) ∧ Keeps (chgW S (.slice ao pl.length ac)) w W2))
        cases hb : (f s' ns k (pl.map Pn.nd)).2
        · rw [hb] at hvis hW1
          rw [if_neg (by simp)] at hW1
          have hRe : R = ((f s' ns k (pl.map Pn.nd)).1, false) := hW1.symm
          obtain ⟨s2, hs2⟩ : ∃ s2, (f s' ns k (pl.map Pn.nd)).1 = s2 := ⟨_, rfl⟩
          rw [hs2] at hvis hRe
          have HRe := hide hRe
          clear hW1 hb hpk hs2 hRe
          go_upto_region 4 with fail
          refine wp_region_any (by kernel_rfl) ?_
          change wpAny _ _ _ _ _ _ _ (World.drew _)
          refine wpAny_take (i := 0) (v := .func (.func K) #[] caps) rfl (by kernel_rfl) (by kernel_rfl) (by kernel_rfl) (fun _ _ _ h => h) (Or.inl ⟨by rfl, by intro w; go_simp⟩) ?_
          refine wpAny_take (i := 1) (v := .slice (some ⟨g, x, none⟩) l.length c) rfl (by kernel_rfl) (by kernel_rfl) (by kernel_rfl) (fun _ _ _ h => h) (Or.inl ⟨by rfl, by intro w; go_simp⟩) ?_
          refine wpAny_take (i := 2) (v := .int .i64 k) rfl (by kernel_rfl) (by kernel_rfl) (by kernel_rfl) (fun _ _ _ h => h) (Or.inl ⟨by rfl, by intro w; go_simp⟩) ?_
          refine wpAny_take (i := 3) (v := .slice ao pl.length ac) rfl (by kernel_rfl) (by kernel_rfl) (by kernel_rfl) (fun _ _ _ h => h) (Or.inl ⟨by rfl, by intro w; go_simp⟩) ?_
          refine wpAny_ready (rs := [4]) (by kernel_rfl) (by simp) ?_
          refine AllReady.cons rfl (fun K9 hK9 => ?_) AllReady.nil
          refine step_callv (by simp [Region.wanted]) (.tmp 16) _ _ rfl K caps rfl V.enters #[.slice (some ⟨g, x, none⟩) l.length c, .int .i64 k, .slice ao pl.length ac] (by first | (simp [Act.eval]; done) | (simp [Act.eval, Act.put]; done)) (hvis.out _ ((Keeps.refl [] _).drew)) ?_
          rintro e w2 ⟨rfl, hI2, hS2⟩
          refine ⟨_, rfl, ?_⟩
          refine hK9 _ _ ?_
          clear hK9 K9
          refine wpAny_take (i := 5) (v := .bool true) rfl (by kernel_rfl) (by kernel_rfl) (by kernel_rfl) (fun _ _ _ h => h) (Or.inl ⟨by rfl, by intro w; go_simp⟩) ?_
          refine wpAny_take (i := 6) (v := .bool true) rfl (by kernel_rfl) (by kernel_rfl) (by kernel_rfl) (fun _ _ _ h => h) (Or.inl ⟨by rfl, by intro w; go_simp⟩) ?_
          --MARK1
          refine wpAny_take (i := 7) (v := undef) rfl (by kernel_rfl) (by kernel_rfl) (by kernel_rfl) (fun _ _ _ h => h) (Or.inr ⟨wanted_no rfl rfl rfl ((put_same (by simp only [put_size]; exact of_decide_eq_true rfl))) (by decide), rfl⟩) ?_
          --MARK2
          refine wpAny_take (i := 8) (v := undef) rfl (by kernel_rfl) (by kernel_rfl) (by kernel_rfl) (fun _ _ _ h => h) (Or.inr ⟨wanted_no rfl rfl rfl (put_get ((put_same (by simp only [put_size]; exact of_decide_eq_true rfl))) (by decide)) (by decide), rfl⟩) ?_
          refine wpAny_take (i := 9) (v := undef) rfl (by kernel_rfl) (by kernel_rfl) (by kernel_rfl) (fun _ _ _ h => h) (Or.inr ⟨wanted_no rfl rfl rfl (put_get (put_get ((put_same (by simp only [put_size]; exact of_decide_eq_true rfl))) (by decide)) (by decide)) (by decide), rfl⟩) ?_
          refine wpAny_take (i := 10) (v := undef) rfl (by kernel_rfl) (by kernel_rfl) (by kernel_rfl) (fun _ _ _ h => h) (Or.inr ⟨wanted_no rfl rfl rfl (put_get (put_get (put_get ((put_same (by simp only [put_size]; exact of_decide_eq_true rfl))) (by decide)) (by decide)) (by decide)) (by decide), rfl⟩) ?_
          refine wpAny_take (i := 11) (v := undef) rfl (by kernel_rfl) (by kernel_rfl) (by kernel_rfl) (fun _ _ _ h => h) (Or.inr ⟨wanted_no rfl rfl rfl (put_get (put_get (put_get (put_get ((put_same (by simp only [put_size]; exact of_decide_eq_true rfl))) (by decide)) (by decide)) (by decide)) (by decide)) (by decide), rfl⟩) ?_
          refine wpAny_take (i := 12) (v := undef) rfl (by kernel_rfl) (by kernel_rfl) (by kernel_rfl) (fun _ _ _ h => h) (Or.inr ⟨wanted_no rfl rfl rfl (put_get (put_get (put_get (put_get (put_get ((put_same (by simp only [put_size]; exact of_decide_eq_true rfl))) (by decide)) (by decide)) (by decide)) (by decide)) (by decide)) (by decide), rfl⟩) ?_
          refine wpAny_take (i := 13) (v := undef) rfl (by kernel_rfl) (by kernel_rfl) (by kernel_rfl) (fun _ _ _ h => h) (Or.inr ⟨wanted_no rfl rfl rfl (put_get (put_get (put_get (put_get (put_get (put_get ((put_same (by simp only [put_size]; exact of_decide_eq_true rfl))) (by decide)) (by decide)) (by decide)) (by decide)) (by decide)) (by decide)) (by decide), rfl⟩) ?_
          refine wpAny_take (i := 14) (v := undef) rfl (by kernel_rfl) (by kernel_rfl) (by kernel_rfl) (fun _ _ _ h => h) (Or.inr ⟨wanted_no rfl rfl rfl (put_get (put_get (put_get (put_get (put_get (put_get (put_get ((put_same (by simp only [put_size]; exact of_decide_eq_true rfl))) (by decide)) (by decide)) (by decide)) (by decide)) (by decide)) (by decide)) (by decide)) (by decide), rfl⟩) ?_
          refine wpAny_take (i := 15) (v := undef) rfl (by kernel_rfl) (by kernel_rfl) (by kernel_rfl) (fun _ _ _ h => h) (Or.inr ⟨wanted_no rfl rfl rfl (put_get (put_get (put_get (put_get (put_get (put_get (put_get (put_get ((put_same (by simp only [put_size]; exact of_decide_eq_true rfl))) (by decide)) (by decide)) (by decide)) (by decide)) (by decide)) (by decide)) (by decide)) (by decide)) (by decide), rfl⟩) ?_
          --MARK3
          refine wpAny_take (i := 16) (v := .bool true) rfl (by kernel_rfl) (by kernel_rfl) (by kernel_rfl) (fun _ _ _ h => h) (Or.inl ⟨by rfl, by intro w; go_simp⟩) ?_
          --MARK4
          refine wpAny_done (by kernel_rfl) ?_ _
          simp only [List.getElem_toArray, List.getElem_cons_zero, List.getElem_cons_succ, Act.put, List.setIfInBounds_toArray, List.set]
          --MARK5
          go_wp2_with fail
          go_ret
          rw [HRe.out]
          exact ⟨rfl, hI2, hend.out _ (hka.trans ((Keeps.refl [] _).drew)) hS2⟩
        · rw [hb] at hvis hW1
          rw [if_pos rfl] at hW1
          obtain ⟨s2, hs2⟩ : ∃ s2, (f s' ns k (pl.map Pn.nd)).1 = s2 := ⟨_, rfl⟩
          rw [hs2] at hvis hW1
          have hin := hide (fun (W' : World) (L' : List Nat) (hkk : Keeps L' w0 W') (hPL' : ∀ g, P g → g ∉ L') (av' : Value) (hI9 : I s2 W') (hrow9 : W'.ownsRow B1 45 4 av' (pl ++ [(⟨nd, .slice qo nd.attrs.length qc, .slice ko nd.kids.length kc⟩ : Pn)]).length (pnsCells (pl ++ [(⟨nd, .slice qo nd.attrs.length qc, .slice ko nd.kids.length kc⟩ : Pn)]))) (hB9 : B1 ≤ W'.heap.size) => hpk W' L' hkk hPL' s2 av' (pl ++ [(⟨nd, .slice qo nd.attrs.length qc, .slice ko nd.kids.length kc⟩ : Pn)]) hI9 hrow9 hB9 (by have := Hsz.out; simp; omega) hFk)
          simp only [List.map_append, List.map_cons, List.map_nil, List.length_append, List.length_singleton] at hin
          obtain ⟨R2, hR2⟩ : ∃ R2, walkL f nd.kids nd.kids 0 (pl.map Pn.nd ++ [nd]) s2 = R2 := ⟨_, rfl⟩
          rw [hR2] at hW1 hin
          have HW := hide hW1
          clear hW1 hb hpk hs2 hR2
          have e0 : pnsCells (pl ++ [(⟨nd, .slice qo nd.attrs.length qc, .slice ko nd.kids.length kc⟩ : Pn)]) = pnsCells pl ++ pnCells ⟨nd, .slice qo nd.attrs.length qc, .slice ko nd.kids.length kc⟩ := by simp [pnsCells]
          rw [e0] at hin
          have E0 := hide e0
          clear e0
          go_upto_region 4 with fail
          refine wp_region_any (by kernel_rfl) ?_
          change wpAny _ _ _ _ _ _ _ (World.drew _)
          refine wpAny_take (i := 0) (v := .func (.func K) #[] caps) rfl (by kernel_rfl) (by kernel_rfl) (by kernel_rfl) (fun _ _ _ h => h) (Or.inl ⟨by rfl, by intro w; go_simp⟩) ?_
          simp only [List.getElem_toArray, List.getElem_cons_zero, Act.put, List.setIfInBounds_toArray, List.set]
          refine wpAny_take (i := 1) (v := .slice (some ⟨g, x, none⟩) l.length c) rfl (by kernel_rfl) (by kernel_rfl) (by kernel_rfl) (fun _ _ _ h => h) (Or.inl ⟨by rfl, by intro w; go_simp⟩) ?_
          simp only [List.getElem_toArray, List.getElem_cons_zero, List.getElem_cons_succ, Act.put, List.setIfInBounds_toArray, List.set]
          refine wpAny_take (i := 2) (v := .int .i64 k) rfl (by kernel_rfl) (by kernel_rfl) (by kernel_rfl) (fun _ _ _ h => h) (Or.inl ⟨by rfl, by intro w; go_simp⟩) ?_
          simp only [List.getElem_toArray, List.getElem_cons_zero, List.getElem_cons_succ, Act.put, List.setIfInBounds_toArray, List.set]
          refine wpAny_take (i := 3) (v := .slice ao pl.length ac) rfl (by kernel_rfl) (by kernel_rfl) (by kernel_rfl) (fun _ _ _ h => h) (Or.inl ⟨by rfl, by intro w; go_simp⟩) ?_
          simp only [List.getElem_toArray, List.getElem_cons_zero, List.getElem_cons_succ, Act.put, List.setIfInBounds_toArray, List.set]
          refine wpAny_ready (rs := [4]) (by kernel_rfl) (by simp) ?_
          refine AllReady.cons rfl (fun K9 hK9 => ?_) AllReady.nil
          refine step_callv (by simp [Region.wanted]) (.tmp 16) _ _ rfl K caps rfl V.enters #[.slice (some ⟨g, x, none⟩) l.length c, .int .i64 k, .slice ao pl.length ac] (by first | (simp [Act.eval]; done) | (simp [Act.eval, Act.put]; done)) (hvis.out _ ((Keeps.refl [] _).drew)) ?_
          rintro e w2 ⟨rfl, hI2, hS2⟩
          refine ⟨_, rfl, ?_⟩
          refine hK9 _ _ ?_
          clear hK9 K9
          simp only [List.getElem_toArray, List.getElem_cons_zero, List.getElem_cons_succ, Act.put, List.setIfInBounds_toArray, List.set]
          have hbS : wr.heap.size ∉ S := fun hm => by have := hSl _ hm; omega
          have hbx2 : w2.heap[wr.heap.size]? = some (.cells #[.string ⟨nd.name.toArray⟩, .slice qo nd.attrs.length qc, .string ⟨nd.text.toArray⟩, .slice ko nd.kids.length kc] 45 (0, 0)) := (hS2.block _ hbl hbS).trans hbx
          have hrow2 := (hend.out _ (hka.trans ((Keeps.refl [] _).drew)) hS2).1
          have hkp2 := (hend.out _ (hka.trans ((Keeps.refl [] _).drew)) hS2).2
          have k0 : w2.cell? ⟨wr.heap.size, 0, none⟩ = some (.string ⟨nd.name.toArray⟩) := cell_blk hbx2 0
          have k1 : w2.cell? ⟨wr.heap.size, 1, none⟩ = some (.slice qo nd.attrs.length qc) := cell_blk hbx2 1
          have k2 : w2.cell? ⟨wr.heap.size, 2, none⟩ = some (.string ⟨nd.text.toArray⟩) := cell_blk hbx2 2
          have k3 : w2.cell? ⟨wr.heap.size, 3, none⟩ = some (.slice ko nd.kids.length kc) := cell_blk hbx2 3
          have hbl2 : wr.heap.size < w2.heap.size := lt_of_block hbx2
          have k3a : ∀ o', (w2.alloc o').cell? ⟨wr.heap.size, 3, none⟩ = some (.slice ko nd.kids.length kc) := fun o' => (cell_past (a := ⟨wr.heap.size, 3, none⟩) hbl2 o').trans k3
          have hB2 : B1 ≤ w2.heap.size := by omega
          refine wpAny_take (i := 5) (v := .bool false) rfl (by kernel_rfl) (by kernel_rfl) (by kernel_rfl) (fun _ _ _ h => h) (Or.inl ⟨by rfl, by intro w; go_simp⟩) ?_
          simp only [List.getElem_toArray, List.getElem_cons_zero, List.getElem_cons_succ, Act.put, List.setIfInBounds_toArray, List.set]
          refine wpAny_take (i := 6) (v := .bool false) rfl (by kernel_rfl) (by kernel_rfl) (by kernel_rfl) (fun _ _ _ h => h) (Or.inl ⟨by rfl, by intro w; go_simp⟩) ?_
          simp only [List.getElem_toArray, List.getElem_cons_zero, List.getElem_cons_succ, Act.put, List.setIfInBounds_toArray, List.set]
          refine wpAny_take (i := 7) (v := .pointer (some ⟨wr.heap.size, 3, none⟩)) rfl (by kernel_rfl) (by kernel_rfl) (by kernel_rfl) (fun _ _ _ h => h) (Or.inl ⟨wanted_yes rfl rfl rfl rfl, by intro w; go_simp⟩) ?_
          simp only [List.getElem_toArray, List.getElem_cons_zero, List.getElem_cons_succ, Act.put, List.setIfInBounds_toArray, List.set]
          refine wpAny_take (i := 9) (v := .slice ao pl.length ac) rfl (by kernel_rfl) (by kernel_rfl) (by kernel_rfl) (fun _ _ _ h => h) (Or.inl ⟨wanted_yes rfl rfl rfl rfl, by intro w; go_simp⟩) ?_
          simp only [List.getElem_toArray, List.getElem_cons_zero, List.getElem_cons_succ, Act.put, List.setIfInBounds_toArray, List.set]
          refine wpAny_take (i := 13) (v := .func (.func K) #[] caps) rfl (by kernel_rfl) (by kernel_rfl) (by kernel_rfl) (fun _ _ _ h => h) (Or.inl ⟨wanted_yes rfl rfl rfl rfl, by intro w; go_simp⟩) ?_
          simp only [List.getElem_toArray, List.getElem_cons_zero, List.getElem_cons_succ, Act.put, List.setIfInBounds_toArray, List.set]
          --MARK7
          have hdeep : Hid (∀ (w4 : World) (o4 : Option Addr) (c4 : Nat), w4.ownsRow B1 45 4 (.slice o4 (pl.length + 1) c4) (pl.length + 1) (pnsCells pl ++ pnCells (⟨nd, .slice qo nd.attrs.length qc, .slice ko nd.kids.length kc⟩ : Pn)) → (w2.alloc (.cells #[.string ⟨nd.name.toArray⟩, .slice qo nd.attrs.length qc, .string ⟨nd.text.toArray⟩, .slice ko nd.kids.length kc] 45)).grownBy w4 (Value.slice ao pl.length ac).ownBlock → ((∃ g cap, Value.slice ao pl.length ac = .slice (some ⟨g, 0, none⟩) pl.length cap ∧ Value.slice o4 (pl.length + 1) c4 = .slice (some ⟨g, 0, none⟩) (pl.length + 1) cap) ∨ ((Value.slice o4 (pl.length + 1) c4).ownBlock = some (w2.alloc (.cells #[.string ⟨nd.name.toArray⟩, .slice qo nd.attrs.length qc, .string ⟨nd.text.toArray⟩, .slice ko nd.kids.length kc] 45)).heap.size ∧ Keeps [] (w2.alloc (.cells #[.string ⟨nd.name.toArray⟩, .slice qo nd.attrs.length qc, .string ⟨nd.text.toArray⟩, .slice ko nd.kids.length kc] 45)) w4)) → Calls Tryz.prog 171 (#[.slice ko nd.kids.length kc, .slice o4 (pl.length + 1) c4, .func (.func K) #[] caps] ++ #[]) w4 fun e w5 => e = .returned (.bool R2.2) ∧ I R2.1 w5 ∧ w5.ownsRow B1 45 4 (.slice ao pl.length ac) pl.length (pnsCells pl) ∧ Keeps (chgW S (.slice ao pl.length ac)) w w5) := by
            intro w4 o4 c4 ho4 hg4 hc4
            have hk4 : Keeps (Value.slice ao pl.length ac).ownBlock.toList w2 w4 := ((Keeps.refl _ w2).alloc _).grown hg4 (fun i e => .inl (by simp [e]))
            have hk24 : Keeps (chgW S (.slice ao pl.length ac)) w w4 := hkp2.trans (hk4.to (fun g hg => List.mem_append_right _ hg))
            refine (hin.out w4 (L ++ chgW S (.slice ao pl.length ac)) ((HKW.out.to (fun g hg => List.mem_append_left _ hg)).trans (hk24.to (fun g hg => List.mem_append_right _ hg))) (fun g hg hm => (List.mem_append.1 hm).elim (HPL.out g hg) (hPc g hg)) (.slice o4 (pl.length + 1) c4) (hst s2 w2 w4 _ (fun g hg => (hrow2.lt g (by simpa using hg)).1) hI2 hk4) ho4 (Nat.le_trans hB2 hk4.size)).mono ?_
            rintro e w5 ⟨rfl, hI5, hrow5, hk5⟩
            rcases hc4 with ⟨g4, cap4, e1, e2⟩ | ⟨e1, hk34⟩
            · rw [e1]
              rw [e2] at hrow5 hk5
              rw [e1] at hk24
              refine ⟨rfl, hI5, row_shrink (pnsCells_len pl) hrow5, keeps_within hk24 hk5 (fun g hg _ => ?_)⟩
              exact hg
            · have hr4 := hk34.owns (hrow2.alloc (.cells #[.string ⟨nd.name.toArray⟩, .slice qo nd.attrs.length qc, .string ⟨nd.text.toArray⟩, .slice ko nd.kids.length kc] 45)) (fun _ _ => List.not_mem_nil)
              have hsz9 : (w2.alloc (.cells #[.string ⟨nd.name.toArray⟩, .slice qo nd.attrs.length qc, .string ⟨nd.text.toArray⟩, .slice ko nd.kids.length kc] 45)).heap.size = w2.heap.size + 1 := by simp
              rw [hsz9] at e1
              refine ⟨rfl, hI5, hk5.owns hr4 (fun g hg hm => ?_), keeps_within hk24 hk5 (fun g hg hlt => ?_)⟩
              · rcases List.mem_append.1 hm with hm | hm
                · have := hSl g hm
                  have := (hrow2.lt g hg).1
                  omega
                · rw [e1] at hm
                  simp at hm
                  have := (hrow2.lt g hg).2
                  omega
              · rcases List.mem_append.1 hg with hg | hg
                · exact List.mem_append_left _ hg
                · rw [e1] at hg
                  simp at hg
                  have := hkp2.size
                  omega
          refine wpAny_ready (rs := [8, 10]) (by kernel_rfl) (by simp) ?_
          refine AllReady.cons rfl (fun K9 hK9 => ?_) (AllReady.cons rfl (fun K9 hK9 => ?_) AllReady.nil)
          · refine step_run (v := .slice ko nd.kids.length kc) (w' := w2) (wanted_yes rfl rfl rfl rfl) (by go_simp) ?_
            refine hK9 _ _ ?_
            clear hK9 K9
            simp only [List.getElem_toArray, List.getElem_cons_zero, List.getElem_cons_succ, Act.put, List.setIfInBounds_toArray, List.set]
            refine wpAny_ready (rs := [10]) (by kernel_rfl) (by simp) ?_
            refine AllReady.cons rfl (fun K9 hK9 => ?_) AllReady.nil
            · refine step_run (v := .agg #[.string ⟨nd.name.toArray⟩, .slice qo nd.attrs.length qc, .string ⟨nd.text.toArray⟩, .slice ko nd.kids.length kc]) (w' := w2) (wanted_yes rfl rfl rfl rfl) (by go_simp) ?_
              refine hK9 _ _ ?_
              clear hK9 K9
              simp only [List.getElem_toArray, List.getElem_cons_zero, List.getElem_cons_succ, Act.put, List.setIfInBounds_toArray, List.set]
              refine wpAny_ready (rs := [11]) (by kernel_rfl) (by simp) ?_
              refine AllReady.cons rfl (fun K9 hK9 => ?_) AllReady.nil
              · refine step_run (v := .slice (some ⟨w2.heap.size, 0, none⟩) 1 1) (w' := w2.alloc (.cells #[.string ⟨nd.name.toArray⟩, .slice qo nd.attrs.length qc, .string ⟨nd.text.toArray⟩, .slice ko nd.kids.length kc] 45)) (wanted_yes rfl rfl rfl rfl) (by go_simp) ?_
                refine hK9 _ _ ?_
                clear hK9 K9
                simp only [List.getElem_toArray, List.getElem_cons_zero, List.getElem_cons_succ, Act.put, List.setIfInBounds_toArray, List.set]
                refine wpAny_ready (rs := [12]) (by kernel_rfl) (by simp) ?_
                refine AllReady.cons rfl (fun K9 hK9 => ?_) AllReady.nil
                · refine step_keep (wanted_yes rfl rfl rfl rfl) _ _ 29 rfl B1 45 i0 _ 4 80 Tryz.underlying29 hi hz0 hz1 hz2 (by kernel_rfl) (by decide) (.slice ao pl.length ac) pl.length (pnsCells pl) rfl (hrow2.alloc _) ⟨w2.heap.size, 0, none⟩ 1 (pnCells (⟨nd, .slice qo nd.attrs.length qc, .slice ko nd.kids.length kc⟩ : Pn)) rfl rfl (lit_cells w2 _ 45) pn_one (by unfold maxLen; omega) (by omega) (Nat.le_trans hB2 (by simp)) ?_
                  intro v4 w4 ho4 hg4 hc4
                  obtain ⟨o4, c4, hv4⟩ := row_form ho4
                  subst hv4
                  have hk4 : Keeps (Value.slice ao pl.length ac).ownBlock.toList w2 w4 := ((Keeps.refl _ w2).alloc _).grown hg4 (fun i e => .inl (by simp [e]))
                  have k3b := cell_keepsS hk4 (a := ⟨wr.heap.size, 3, none⟩) (fun hm => by have := hrb _ (by simpa using hm); simp at this) k3
                  refine hK9 _ _ ?_
                  clear hK9 K9
                  simp only [List.getElem_toArray, List.getElem_cons_zero, List.getElem_cons_succ, Act.put, List.setIfInBounds_toArray, List.set]
                  refine wpAny_ready (rs := [14]) (by kernel_rfl) (by simp) ?_
                  refine AllReady.cons rfl (fun K9 hK9 => ?_) AllReady.nil
                  · refine step_callv (wanted_yes rfl rfl rfl rfl) (.func 171) _ _ rfl 171 #[] rfl enters171 #[.slice ko nd.kids.length kc, .slice o4 (pl.length + 1) c4, .func (.func K) #[] caps] (by simp [Act.eval]) (hdeep.out w4 _ _ ho4 hg4 hc4) ?_
                    rintro e w5 ⟨rfl, hI5, hrow5, hk5⟩
                    refine ⟨_, rfl, ?_⟩
                    refine hK9 _ _ ?_
                    clear hK9 K9
                    simp only [List.getElem_toArray, List.getElem_cons_zero, List.getElem_cons_succ, Act.put, List.setIfInBounds_toArray, List.set]
                    cases hb2 : R2.2
                    · refine wpAny_take (i := 15) (v := .bool true) rfl (by kernel_rfl) (by kernel_rfl) (by kernel_rfl) (fun _ _ _ h => h) (Or.inl ⟨wanted_yes rfl rfl rfl rfl, by intro w; go_simp⟩) ?_
                      simp only [List.getElem_toArray, List.getElem_cons_zero, List.getElem_cons_succ, Act.put, List.setIfInBounds_toArray, List.set]
                      refine wpAny_take (i := 16) (v := .bool true) rfl (by kernel_rfl) (by kernel_rfl) (by kernel_rfl) (fun _ _ _ h => h) (Or.inl ⟨by rfl, by intro w; go_simp⟩) ?_
                      simp only [List.getElem_toArray, List.getElem_cons_zero, List.getElem_cons_succ, Act.put, List.setIfInBounds_toArray, List.set]
                      refine wpAny_done (by kernel_rfl) ?_ _
                      go_wp2_with fail
                      go_ret
                      have h9 := HW.out
                      rw [if_neg (by rw [hb2]; simp)] at h9
                      rw [← h9]
                      exact ⟨rfl, hI5, hrow5, hk5⟩
                    · refine wpAny_take (i := 15) (v := .bool false) rfl (by kernel_rfl) (by kernel_rfl) (by kernel_rfl) (fun _ _ _ h => h) (Or.inl ⟨wanted_yes rfl rfl rfl rfl, by intro w; go_simp⟩) ?_
                      simp only [List.getElem_toArray, List.getElem_cons_zero, List.getElem_cons_succ, Act.put, List.setIfInBounds_toArray, List.set]
                      refine wpAny_take (i := 16) (v := .bool false) rfl (by kernel_rfl) (by kernel_rfl) (by kernel_rfl) (fun _ _ _ h => h) (Or.inl ⟨by rfl, by intro w; go_simp⟩) ?_
                      simp only [List.getElem_toArray, List.getElem_cons_zero, List.getElem_cons_succ, Act.put, List.setIfInBounds_toArray, List.set]
                      refine wpAny_done (by kernel_rfl) ?_ _
                      go_wp2_with fail
                      go_roundw
                      case rel => exact ⟨k + 1, R2.1, by omega, by go_num, hI5, hrow5, hk5, by have h9 := HW.out; rw [if_pos hb2] at h9; exact h9⟩
                      case measure => simp [intOf]; omega
          · refine step_run (v := .agg #[.string ⟨nd.name.toArray⟩, .slice qo nd.attrs.length qc, .string ⟨nd.text.toArray⟩, .slice ko nd.kids.length kc]) (w' := w2) (wanted_yes rfl rfl rfl rfl) (by go_simp) ?_
            refine hK9 _ _ ?_
            clear hK9 K9
            simp only [List.getElem_toArray, List.getElem_cons_zero, List.getElem_cons_succ, Act.put, List.setIfInBounds_toArray, List.set]
            refine wpAny_ready (rs := [8, 11]) (by kernel_rfl) (by simp) ?_
            refine AllReady.cons rfl (fun K9 hK9 => ?_) (AllReady.cons rfl (fun K9 hK9 => ?_) AllReady.nil)
            · refine step_run (v := .slice ko nd.kids.length kc) (w' := w2) (wanted_yes rfl rfl rfl rfl) (by go_simp) ?_
              refine hK9 _ _ ?_
              clear hK9 K9
              simp only [List.getElem_toArray, List.getElem_cons_zero, List.getElem_cons_succ, Act.put, List.setIfInBounds_toArray, List.set]
              refine wpAny_ready (rs := [11]) (by kernel_rfl) (by simp) ?_
              refine AllReady.cons rfl (fun K9 hK9 => ?_) AllReady.nil
              · refine step_run (v := .slice (some ⟨w2.heap.size, 0, none⟩) 1 1) (w' := w2.alloc (.cells #[.string ⟨nd.name.toArray⟩, .slice qo nd.attrs.length qc, .string ⟨nd.text.toArray⟩, .slice ko nd.kids.length kc] 45)) (wanted_yes rfl rfl rfl rfl) (by go_simp) ?_
                refine hK9 _ _ ?_
                clear hK9 K9
                simp only [List.getElem_toArray, List.getElem_cons_zero, List.getElem_cons_succ, Act.put, List.setIfInBounds_toArray, List.set]
                refine wpAny_ready (rs := [12]) (by kernel_rfl) (by simp) ?_
                refine AllReady.cons rfl (fun K9 hK9 => ?_) AllReady.nil
                · refine step_keep (wanted_yes rfl rfl rfl rfl) _ _ 29 rfl B1 45 i0 _ 4 80 Tryz.underlying29 hi hz0 hz1 hz2 (by kernel_rfl) (by decide) (.slice ao pl.length ac) pl.length (pnsCells pl) rfl (hrow2.alloc _) ⟨w2.heap.size, 0, none⟩ 1 (pnCells (⟨nd, .slice qo nd.attrs.length qc, .slice ko nd.kids.length kc⟩ : Pn)) rfl rfl (lit_cells w2 _ 45) pn_one (by unfold maxLen; omega) (by omega) (Nat.le_trans hB2 (by simp)) ?_
                  intro v4 w4 ho4 hg4 hc4
                  obtain ⟨o4, c4, hv4⟩ := row_form ho4
                  subst hv4
                  have hk4 : Keeps (Value.slice ao pl.length ac).ownBlock.toList w2 w4 := ((Keeps.refl _ w2).alloc _).grown hg4 (fun i e => .inl (by simp [e]))
                  have k3b := cell_keepsS hk4 (a := ⟨wr.heap.size, 3, none⟩) (fun hm => by have := hrb _ (by simpa using hm); simp at this) k3
                  refine hK9 _ _ ?_
                  clear hK9 K9
                  simp only [List.getElem_toArray, List.getElem_cons_zero, List.getElem_cons_succ, Act.put, List.setIfInBounds_toArray, List.set]
                  refine wpAny_ready (rs := [14]) (by kernel_rfl) (by simp) ?_
                  refine AllReady.cons rfl (fun K9 hK9 => ?_) AllReady.nil
                  · refine step_callv (wanted_yes rfl rfl rfl rfl) (.func 171) _ _ rfl 171 #[] rfl enters171 #[.slice ko nd.kids.length kc, .slice o4 (pl.length + 1) c4, .func (.func K) #[] caps] (by simp [Act.eval]) (hdeep.out w4 _ _ ho4 hg4 hc4) ?_
                    rintro e w5 ⟨rfl, hI5, hrow5, hk5⟩
                    refine ⟨_, rfl, ?_⟩
                    refine hK9 _ _ ?_
                    clear hK9 K9
                    simp only [List.getElem_toArray, List.getElem_cons_zero, List.getElem_cons_succ, Act.put, List.setIfInBounds_toArray, List.set]
                    cases hb2 : R2.2
                    · refine wpAny_take (i := 15) (v := .bool true) rfl (by kernel_rfl) (by kernel_rfl) (by kernel_rfl) (fun _ _ _ h => h) (Or.inl ⟨wanted_yes rfl rfl rfl rfl, by intro w; go_simp⟩) ?_
                      simp only [List.getElem_toArray, List.getElem_cons_zero, List.getElem_cons_succ, Act.put, List.setIfInBounds_toArray, List.set]
                      refine wpAny_take (i := 16) (v := .bool true) rfl (by kernel_rfl) (by kernel_rfl) (by kernel_rfl) (fun _ _ _ h => h) (Or.inl ⟨by rfl, by intro w; go_simp⟩) ?_
                      simp only [List.getElem_toArray, List.getElem_cons_zero, List.getElem_cons_succ, Act.put, List.setIfInBounds_toArray, List.set]
                      refine wpAny_done (by kernel_rfl) ?_ _
                      go_wp2_with fail
                      go_ret
                      have h9 := HW.out
                      rw [if_neg (by rw [hb2]; simp)] at h9
                      rw [← h9]
                      exact ⟨rfl, hI5, hrow5, hk5⟩
                    · refine wpAny_take (i := 15) (v := .bool false) rfl (by kernel_rfl) (by kernel_rfl) (by kernel_rfl) (fun _ _ _ h => h) (Or.inl ⟨wanted_yes rfl rfl rfl rfl, by intro w; go_simp⟩) ?_
                      simp only [List.getElem_toArray, List.getElem_cons_zero, List.getElem_cons_succ, Act.put, List.setIfInBounds_toArray, List.set]
                      refine wpAny_take (i := 16) (v := .bool false) rfl (by kernel_rfl) (by kernel_rfl) (by kernel_rfl) (fun _ _ _ h => h) (Or.inl ⟨by rfl, by intro w; go_simp⟩) ?_
                      simp only [List.getElem_toArray, List.getElem_cons_zero, List.getElem_cons_succ, Act.put, List.setIfInBounds_toArray, List.set]
                      refine wpAny_done (by kernel_rfl) ?_ _
                      go_wp2_with fail
                      go_roundw
                      case rel => exact ⟨k + 1, R2.1, by omega, by go_num, hI5, hrow5, hk5, by have h9 := HW.out; rw [if_pos hb2] at h9; exact h9⟩
                      case measure => simp [intOf]; omega
            · refine step_run (v := .slice (some ⟨w2.heap.size, 0, none⟩) 1 1) (w' := w2.alloc (.cells #[.string ⟨nd.name.toArray⟩, .slice qo nd.attrs.length qc, .string ⟨nd.text.toArray⟩, .slice ko nd.kids.length kc] 45)) (wanted_yes rfl rfl rfl rfl) (by go_simp) ?_
              refine hK9 _ _ ?_
              clear hK9 K9
              simp only [List.getElem_toArray, List.getElem_cons_zero, List.getElem_cons_succ, Act.put, List.setIfInBounds_toArray, List.set]
              refine wpAny_ready (rs := [8, 12]) (by kernel_rfl) (by simp) ?_
              refine AllReady.cons rfl (fun K9 hK9 => ?_) (AllReady.cons rfl (fun K9 hK9 => ?_) AllReady.nil)
              · refine step_run (v := .slice ko nd.kids.length kc) (w' := w2.alloc (.cells #[.string ⟨nd.name.toArray⟩, .slice qo nd.attrs.length qc, .string ⟨nd.text.toArray⟩, .slice ko nd.kids.length kc] 45)) (wanted_yes rfl rfl rfl rfl) (by go_simp) ?_
                refine hK9 _ _ ?_
                clear hK9 K9
                simp only [List.getElem_toArray, List.getElem_cons_zero, List.getElem_cons_succ, Act.put, List.setIfInBounds_toArray, List.set]
                refine wpAny_ready (rs := [12]) (by kernel_rfl) (by simp) ?_
                refine AllReady.cons rfl (fun K9 hK9 => ?_) AllReady.nil
                · refine step_keep (wanted_yes rfl rfl rfl rfl) _ _ 29 rfl B1 45 i0 _ 4 80 Tryz.underlying29 hi hz0 hz1 hz2 (by kernel_rfl) (by decide) (.slice ao pl.length ac) pl.length (pnsCells pl) rfl (hrow2.alloc _) ⟨w2.heap.size, 0, none⟩ 1 (pnCells (⟨nd, .slice qo nd.attrs.length qc, .slice ko nd.kids.length kc⟩ : Pn)) rfl rfl (lit_cells w2 _ 45) pn_one (by unfold maxLen; omega) (by omega) (Nat.le_trans hB2 (by simp)) ?_
                  intro v4 w4 ho4 hg4 hc4
                  obtain ⟨o4, c4, hv4⟩ := row_form ho4
                  subst hv4
                  have hk4 : Keeps (Value.slice ao pl.length ac).ownBlock.toList w2 w4 := ((Keeps.refl _ w2).alloc _).grown hg4 (fun i e => .inl (by simp [e]))
                  have k3b := cell_keepsS hk4 (a := ⟨wr.heap.size, 3, none⟩) (fun hm => by have := hrb _ (by simpa using hm); simp at this) k3
                  refine hK9 _ _ ?_
                  clear hK9 K9
                  simp only [List.getElem_toArray, List.getElem_cons_zero, List.getElem_cons_succ, Act.put, List.setIfInBounds_toArray, List.set]
                  refine wpAny_ready (rs := [14]) (by kernel_rfl) (by simp) ?_
                  refine AllReady.cons rfl (fun K9 hK9 => ?_) AllReady.nil
                  · refine step_callv (wanted_yes rfl rfl rfl rfl) (.func 171) _ _ rfl 171 #[] rfl enters171 #[.slice ko nd.kids.length kc, .slice o4 (pl.length + 1) c4, .func (.func K) #[] caps] (by simp [Act.eval]) (hdeep.out w4 _ _ ho4 hg4 hc4) ?_
                    rintro e w5 ⟨rfl, hI5, hrow5, hk5⟩
                    refine ⟨_, rfl, ?_⟩
                    refine hK9 _ _ ?_
                    clear hK9 K9
                    simp only [List.getElem_toArray, List.getElem_cons_zero, List.getElem_cons_succ, Act.put, List.setIfInBounds_toArray, List.set]
                    cases hb2 : R2.2
                    · refine wpAny_take (i := 15) (v := .bool true) rfl (by kernel_rfl) (by kernel_rfl) (by kernel_rfl) (fun _ _ _ h => h) (Or.inl ⟨wanted_yes rfl rfl rfl rfl, by intro w; go_simp⟩) ?_
                      simp only [List.getElem_toArray, List.getElem_cons_zero, List.getElem_cons_succ, Act.put, List.setIfInBounds_toArray, List.set]
                      refine wpAny_take (i := 16) (v := .bool true) rfl (by kernel_rfl) (by kernel_rfl) (by kernel_rfl) (fun _ _ _ h => h) (Or.inl ⟨by rfl, by intro w; go_simp⟩) ?_
                      simp only [List.getElem_toArray, List.getElem_cons_zero, List.getElem_cons_succ, Act.put, List.setIfInBounds_toArray, List.set]
                      refine wpAny_done (by kernel_rfl) ?_ _
                      go_wp2_with fail
                      go_ret
                      have h9 := HW.out
                      rw [if_neg (by rw [hb2]; simp)] at h9
                      rw [← h9]
                      exact ⟨rfl, hI5, hrow5, hk5⟩
                    · refine wpAny_take (i := 15) (v := .bool false) rfl (by kernel_rfl) (by kernel_rfl) (by kernel_rfl) (fun _ _ _ h => h) (Or.inl ⟨wanted_yes rfl rfl rfl rfl, by intro w; go_simp⟩) ?_
                      simp only [List.getElem_toArray, List.getElem_cons_zero, List.getElem_cons_succ, Act.put, List.setIfInBounds_toArray, List.set]
                      refine wpAny_take (i := 16) (v := .bool false) rfl (by kernel_rfl) (by kernel_rfl) (by kernel_rfl) (fun _ _ _ h => h) (Or.inl ⟨by rfl, by intro w; go_simp⟩) ?_
                      simp only [List.getElem_toArray, List.getElem_cons_zero, List.getElem_cons_succ, Act.put, List.setIfInBounds_toArray, List.set]
                      refine wpAny_done (by kernel_rfl) ?_ _
                      go_wp2_with fail
                      go_roundw
                      case rel => exact ⟨k + 1, R2.1, by omega, by go_num, hI5, hrow5, hk5, by have h9 := HW.out; rw [if_pos hb2] at h9; exact h9⟩
                      case measure => simp [intOf]; omega
              · refine step_keep (wanted_yes rfl rfl rfl rfl) _ _ 29 rfl B1 45 i0 _ 4 80 Tryz.underlying29 hi hz0 hz1 hz2 (by kernel_rfl) (by decide) (.slice ao pl.length ac) pl.length (pnsCells pl) rfl (hrow2.alloc _) ⟨w2.heap.size, 0, none⟩ 1 (pnCells (⟨nd, .slice qo nd.attrs.length qc, .slice ko nd.kids.length kc⟩ : Pn)) rfl rfl (lit_cells w2 _ 45) pn_one (by unfold maxLen; omega) (by omega) (Nat.le_trans hB2 (by simp)) ?_
                intro v4 w4 ho4 hg4 hc4
                obtain ⟨o4, c4, hv4⟩ := row_form ho4
                subst hv4
                have hk4 : Keeps (Value.slice ao pl.length ac).ownBlock.toList w2 w4 := ((Keeps.refl _ w2).alloc _).grown hg4 (fun i e => .inl (by simp [e]))
                have k3b := cell_keepsS hk4 (a := ⟨wr.heap.size, 3, none⟩) (fun hm => by have := hrb _ (by simpa using hm); simp at this) k3
                refine hK9 _ _ ?_
                clear hK9 K9
                simp only [List.getElem_toArray, List.getElem_cons_zero, List.getElem_cons_succ, Act.put, List.setIfInBounds_toArray, List.set]
                refine wpAny_ready (rs := [8]) (by kernel_rfl) (by simp) ?_
                refine AllReady.cons rfl (fun K9 hK9 => ?_) AllReady.nil
                · refine step_run (v := .slice ko nd.kids.length kc) (w' := w4) (wanted_yes rfl rfl rfl rfl) (by go_simp) ?_
                  refine hK9 _ _ ?_
                  clear hK9 K9
                  simp only [List.getElem_toArray, List.getElem_cons_zero, List.getElem_cons_succ, Act.put, List.setIfInBounds_toArray, List.set]
                  refine wpAny_ready (rs := [14]) (by kernel_rfl) (by simp) ?_
                  refine AllReady.cons rfl (fun K9 hK9 => ?_) AllReady.nil
                  · refine step_callv (wanted_yes rfl rfl rfl rfl) (.func 171) _ _ rfl 171 #[] rfl enters171 #[.slice ko nd.kids.length kc, .slice o4 (pl.length + 1) c4, .func (.func K) #[] caps] (by simp [Act.eval]) (hdeep.out w4 _ _ ho4 hg4 hc4) ?_
                    rintro e w5 ⟨rfl, hI5, hrow5, hk5⟩
                    refine ⟨_, rfl, ?_⟩
                    refine hK9 _ _ ?_
                    clear hK9 K9
                    simp only [List.getElem_toArray, List.getElem_cons_zero, List.getElem_cons_succ, Act.put, List.setIfInBounds_toArray, List.set]
                    cases hb2 : R2.2
                    · refine wpAny_take (i := 15) (v := .bool true) rfl (by kernel_rfl) (by kernel_rfl) (by kernel_rfl) (fun _ _ _ h => h) (Or.inl ⟨wanted_yes rfl rfl rfl rfl, by intro w; go_simp⟩) ?_
                      simp only [List.getElem_toArray, List.getElem_cons_zero, List.getElem_cons_succ, Act.put, List.setIfInBounds_toArray, List.set]
                      refine wpAny_take (i := 16) (v := .bool true) rfl (by kernel_rfl) (by kernel_rfl) (by kernel_rfl) (fun _ _ _ h => h) (Or.inl ⟨by rfl, by intro w; go_simp⟩) ?_
                      simp only [List.getElem_toArray, List.getElem_cons_zero, List.getElem_cons_succ, Act.put, List.setIfInBounds_toArray, List.set]
                      refine wpAny_done (by kernel_rfl) ?_ _
                      go_wp2_with fail
                      go_ret
                      have h9 := HW.out
                      rw [if_neg (by rw [hb2]; simp)] at h9
                      rw [← h9]
                      exact ⟨rfl, hI5, hrow5, hk5⟩
                    · refine wpAny_take (i := 15) (v := .bool false) rfl (by kernel_rfl) (by kernel_rfl) (by kernel_rfl) (fun _ _ _ h => h) (Or.inl ⟨wanted_yes rfl rfl rfl rfl, by intro w; go_simp⟩) ?_
                      simp only [List.getElem_toArray, List.getElem_cons_zero, List.getElem_cons_succ, Act.put, List.setIfInBounds_toArray, List.set]
                      refine wpAny_take (i := 16) (v := .bool false) rfl (by kernel_rfl) (by kernel_rfl) (by kernel_rfl) (fun _ _ _ h => h) (Or.inl ⟨by rfl, by intro w; go_simp⟩) ?_
                      simp only [List.getElem_toArray, List.getElem_cons_zero, List.getElem_cons_succ, Act.put, List.setIfInBounds_toArray, List.set]
                      refine wpAny_done (by kernel_rfl) ?_ _
                      go_wp2_with fail
                      go_roundw
                      case rel => exact ⟨k + 1, R2.1, by omega, by go_num, hI5, hrow5, hk5, by have h9 := HW.out; rw [if_pos hb2] at h9; exact h9⟩
                      case measure => simp [intOf]; omega
      · have hRe : R = (s', true) := by
          have := hW.out
          rw [List.drop_eq_nil_of_le (by rw [← Hll.out]; omega), walkL] at this
          exact this.symm
        subst hRe
        go_wp2_with fail
        go_ret
        exact ⟨rfl, hI'.out, hrow'.out, hkr.out⟩
set_option maxHeartbeats 1000000 in
theorem Walk_any {σ : Type} {K : Nat} {caps : Array Value} {f : σ → List Nd → Nat → List Nd → σ × Bool} {I : σ → World → Prop} {S : List Nat} {B1 : Nat} {P : Nat → Prop} {F : List Nd → Prop} (V : Vis K caps f I S B1 P F)
    (w : World) (v : Value) (ns : List Nd) (h : Ns w P v ns) (s : σ) (hI : I s w) (hB : B1 ≤ w.heap.size) (hsz : sizeNs ns ≤ 2000000) (hF : F ns) :
    Calls Tryz.prog 87 #[v, .func (.func K) #[] caps] w fun e w' => e = .returned (.bool (walkL f ns ns 0 [] s).2) ∧ I (walkL f ns ns 0 [] s).1 w' ∧ Keeps S w w' := by
  have hc := hide (walk_all V w v ns h w [] (Keeps.refl _ _) (fun _ _ => List.not_mem_nil) s (.slice none 0 0) [] hI (World.ownsRow_nil _ _ _ _) hB (by simpa using hsz) hF)
  simp only [List.map_nil] at hc
  generalize walkL f ns ns 0 [] s = R at *
  obtain ⟨o, c, hv⟩ := h.form
  subst hv
  clear h
  go_enter Tryz.func87, Tryz.ntmps87
  go_wp2_with fail
  refine hc.out.mono ?_
  rintro e w1 ⟨rfl, h1, _, h2⟩
  go_wp2_with fail
  go_ret
  exact ⟨rfl, h1, h2.mono (fun g hg _ => by simpa [chgW, Value.ownBlock] using hg)⟩
def IsNum (w : World) (c : Nat) (t : TypeId) (s : Int) : Prop := w.heap[c]? = some (.cells #[.int .i64 s] t (0, 0))
theorem IsNum.keeps {S : List Nat} {w w' : World} {c : Nat} {t : TypeId} {s : Int} (h : IsNum w c t s) (hk : Keeps S w w') (hc : c ∉ S) : IsNum w' c t s := by
  unfold IsNum at *
  rw [hk.block c (lt_of_block h) hc]; exact h
theorem IsNum.set {w : World} {c : Nat} {t : TypeId} {s : Int} (h : IsNum w c t s) (u : Int) : IsNum (w.setCell ⟨c, 0, none⟩ (.int .i64 u)) c t u := by
  unfold IsNum at *
  simp [World.setCell, Array.getElem?_modify, h]
def fitsF (s : Int) (b : List Nd) (i : Nat) (ar : List Nd) : Int × Bool :=
  (wrap64 (s + 1), decide (wrap64 (s + 1) ≤ 3000) && ((b[i]?.map Nd.name == some []) || decide (ar.length < 8)))
set_option maxRecDepth 4000 in
set_option maxHeartbeats 2000000 in
theorem fits1_any (P : Nat → Prop) (B1 c : Nat) (s : Int) (w : World) (v : Value) (ns : List Nd) (i : Nat) (av : Value) (pl : List Pn) (hI : IsNum w c 3 s) (hN : Ns w P v ns) (hi : i < ns.length) (hrow : w.ownsRow B1 45 4 av pl.length (pnsCells pl)) (hpl : pl.length ≤ 2000000) (hc : ∀ g, P g → g ≠ c) :
    Calls Tryz.prog 251 #[v, .int .i64 i, av, .pointer (some ⟨c, 0, none⟩)] w fun e w' => e = .returned (.bool (fitsF s ns i (pl.map Pn.nd)).2) ∧ IsNum w' c 3 (fitsF s ns i (pl.map Pn.nd)).1 ∧ Keeps [c] w w' := by
  unfold fitsF
  simp only
  cases hN with
  | mk _ l _ hns hl ha hk =>
  obtain ⟨o, c', rfl, h1, h2⟩ := hl.lies.form
  obtain ⟨ao, ac, hav⟩ := row_form hrow
  subst hav
  subst hns
  rw [List.length_map] at hi
  have hd0 : w.cell? ⟨c, 0, none⟩ = some (.int .i64 s) := cell_blk hI 0
  have hd1 : w.frozen? ⟨c, 0, none⟩ = false := free_blk hI 0
  rcases hl.2 with ⟨h0, _⟩ | ⟨g, x, c9, e9, _, _, _, hPg, hcl⟩
  · omega
  simp only [Value.slice.injEq] at e9
  obtain ⟨rfl, _, rfl⟩ := e9
  obtain ⟨a0, _, _, _⟩ := lies_pn hcl i hi
  have hgc : g ≠ c := hc g hPg
  have a0s : ∀ u, (w.setCell ⟨c, 0, none⟩ u).cell? ⟨g, x + i * 4, none⟩ = some (.string ⟨l[i].nd.name.toArray⟩) := fun u =>
    cell_keepsS ((Keeps.refl [c] w).setCell (p := ⟨c, 0, none⟩) (.inl (by simp)) u) (a := ⟨g, x + i * 4, none⟩) (by simpa using hgc) a0
  have hnm : ((l.map Pn.nd)[i]?.map Nd.name == some []) = decide (l[i].nd.name = []) := by
    rw [List.getElem?_map, List.getElem?_eq_getElem hi, Bool.eq_iff_iff]
    simp
  rw [hnm, List.length_map]
  have p0 := emptyB l[i].nd.name
  have hst := hI.set (wrap64 (s + 1))
  have hks : Keeps [c] w (w.setCell ⟨c, 0, none⟩ (.int .i64 (wrap64 (s + 1)))) := (Keeps.refl [c] w).setCell (.inl (by simp)) _
  clear hcl hnm hrow ha hk hl
  obtain ⟨S1, hS1⟩ : ∃ S1, wrap64 (s + 1) = S1 := ⟨_, rfl⟩
  rw [hS1] at hst hks ⊢
  generalize l[i].nd.name = nm at *
  unfold maxLen at h2
  have d2 : (w.setCell ⟨c, 0, none⟩ (.int .i64 S1)).cell? ⟨c, 0, none⟩ = some (.int .i64 S1) := cell_blk hst 0
  by_cases q1 : S1 ≤ 3000
  · have q1b : decide (S1 ≤ 3000) = true := by simpa using q1
    rw [q1b, Bool.true_and]
    by_cases q2 : nm = []
    · have q2b : decide (nm = []) = true := by simpa using q2
      rw [q2b]
      rw [Bool.true_or]
      subst q2
      clear p0 q2b
      go_enter Tryz.func251, Tryz.ntmps251
      go_wp2_with fail
      go_ret
      exact ⟨rfl, hst, hks⟩
    · have q2b : decide (nm = []) = false := by simpa using q2
      rw [q2b]
      rw [Bool.false_or]
      have q2e : nm.isEmpty = false := by cases nm <;> simp_all
      clear q2 p0 q2b
      by_cases q3 : pl.length < 8
      · have q3b : decide (pl.length < 8) = true := by simpa using q3
        have q3c : (pl.length : Int) < 8 := by omega
        rw [q3b]
        go_enter Tryz.func251, Tryz.ntmps251
        go_wp2_with fail
        go_ret
        exact ⟨rfl, hst, hks⟩
      · have q3b : decide (pl.length < 8) = false := by simpa using q3
        have q3c : ¬ (pl.length : Int) < 8 := by omega
        rw [q3b]
        go_enter Tryz.func251, Tryz.ntmps251
        go_wp2_with fail
        go_ret
        exact ⟨rfl, hst, hks⟩
  · have q1b : decide (S1 ≤ 3000) = false := by simpa using q1
    rw [q1b, Bool.false_and]
    go_enter Tryz.func251, Tryz.ntmps251
    go_wp2_with fail
    go_ret
    exact ⟨rfl, hst, hks⟩
theorem enters251 : Enters 251 := enters_of Tryz.func251 (by kernel_rfl) (by kernel_rfl)
theorem Ns.lt {w : World} {P : Nat → Prop} {v : Value} {ns : List Nd} (h : Ns w P v ns) : Ns w (fun g => g < w.heap.size) v ns := h.mono (fun _ hg _ => hg)
theorem fits_vis (c B1 : Nat) (h : c < B1) : Vis 251 #[.pointer (some ⟨c, 0, none⟩)] fitsF (fun s w => IsNum w c 3 s) [c] B1 (fun g => g < c) (fun _ => True) where
  call s w v ns i av pl hI hN _ hi hrow hpl _ := fits1_any _ B1 c s w v ns i av pl hI hN hi hrow hpl (fun g hg => by omega)
  stable s w w' L hL hI hk := hI.keeps hk (fun hm => by have := hL c hm; omega)
  down _ _ _ _ := trivial
  low g hg := by simp at hg; omega
  enters := enters251
  part g hg := ⟨by omega, by simp; omega⟩
set_option maxHeartbeats 1000000 in
theorem fits_any (w : World) (P : Nat → Prop) (v : Value) (ns : List Nd) (h : Ns w P v ns) (hsz : sizeNs ns ≤ 2000000) :
    Calls Tryz.prog 181 #[v] w fun e w' => e = .returned (.bool (walkL fitsF ns ns 0 [] 0).2) ∧ Keeps [] w w' := by
  have hka : Keeps [] w (w.alloc (.cells #[.int .i64 0] 3)) := (Keeps.refl [] w).alloc _
  have hc := hide (Walk_any (fits_vis w.heap.size (w.heap.size + 1) (by omega)) (w.alloc (.cells #[.int .i64 0] 3)) v ns (h.lt.keeps0 hka) 0 (heap_alloc_new w _) (by simp) hsz trivial)
  generalize walkL fitsF ns ns 0 [] 0 = R at *
  obtain ⟨o, c, hv⟩ := h.form
  subst hv
  clear h
  go_enter Tryz.func181, Tryz.ntmps181
  go_wp2_with fail
  refine hc.out.mono ?_
  rintro e w1 ⟨rfl, _, h2⟩
  go_wp2_with fail
  go_ret
  refine ⟨rfl, ?_⟩
  have h3 := keeps_within hka h2 (fun g hg hlt => by simp at hg; omega)
  exact h3
def chkTextOf (tx : List UInt8) (at' : List Pair) (ks : List Nd) (prev : Bool) : Int := if tx.isEmpty = true ∨ 0 < at'.length ∨ 0 < ks.length then 1 else if prev = true then 4 else 0
def prevText (b : List Nd) (i : Nat) : Bool := decide (0 < i) && (b[i - 1]?.map Nd.name == some [])
def chkText (b : List Nd) (i : Nat) : Int :=
  match b[i]? with
  | none => 0
  | some n => chkTextOf n.text n.attrs n.kids (prevText b i)
set_option maxRecDepth 4000 in
set_option maxHeartbeats 4000000 in
theorem checkText_any (w : World) (P : Nat → Prop) (v : Value) (ns : List Nd) (i : Nat) (hN : Ns w P v ns) (hi : i < ns.length) :
    Calls Tryz.prog 183 #[v, .int .i64 i] w fun e w' => e = .returned (.int .i64 (chkText ns i)) ∧ Keeps [] w w' := by
  cases hN with
  | mk _ l _ hns hl ha hk =>
  obtain ⟨o, c', rfl, h1, h2⟩ := hl.lies.form
  subst hns
  rw [List.length_map] at hi
  obtain ⟨g, x, rfl, hcl⟩ := hl.lies.addr (by omega)
  obtain ⟨a0, a1, a2, a3⟩ := lies_pn hcl i hi
  have hprev : 0 < i → ∃ pn : List UInt8, w.cell? ⟨g, x + (i - 1) * 4, none⟩ = some (.string ⟨pn.toArray⟩) ∧ prevText (l.map Pn.nd) i = pn.isEmpty := fun h0 => by
    refine ⟨l[i - 1].nd.name, (lies_pn hcl (i - 1) (by omega)).1, ?_⟩
    unfold prevText
    rw [List.getElem?_map, List.getElem?_eq_getElem (by omega)]
    cases hq : l[i - 1].nd.name <;> simp [h0, hq]
  have hno : i = 0 → prevText (l.map Pn.nd) i = false := fun h0 => by simp [prevText, h0]
  have hc0 : chkText (l.map Pn.nd) i = chkTextOf l[i].nd.text l[i].nd.attrs l[i].nd.kids (prevText (l.map Pn.nd) i) := by
    unfold chkText
    rw [List.getElem?_map, List.getElem?_eq_getElem hi]
    rfl
  rw [hc0]
  obtain ⟨oa, ca, hav⟩ := (ha l[i] (List.getElem_mem hi)).form
  obtain ⟨ok, ck, hkv⟩ := (hk l[i] (List.getElem_mem hi)).form
  rw [hav] at a1
  rw [hkv] at a3
  clear hcl hav hkv ha hk hl hc0
  generalize prevText (l.map Pn.nd) i = pb at *
  generalize l[i].nd = nd at *
  generalize nd.attrs = at' at *
  generalize nd.text = tx at *
  generalize nd.kids = ks at *
  generalize nd.name = nm at *
  have hka : Keeps [] w (w.alloc (.cells #[.string ⟨nm.toArray⟩, .slice oa at'.length ca, .string ⟨tx.toArray⟩, .slice ok ks.length ck] 45)) := (Keeps.refl [] w).alloc _
  unfold maxLen at h2
  cases t0 : tx.isEmpty
  · by_cases t1 : 0 < at'.length
    · have e1 : chkTextOf tx at' ks pb = 1 := by simp only [chkTextOf, t1, true_or, or_true, if_true]
      rw [e1]
      clear hprev hno e1
      go_enter Tryz.func183, Tryz.ntmps183
      go_wp2_with fail
      go_ret
      exact ⟨rfl, hka⟩
    · by_cases t2 : 0 < ks.length
      · have e1 : chkTextOf tx at' ks pb = 1 := by simp only [chkTextOf, t2, or_true, if_true]
        rw [e1]
        clear hprev hno e1
        go_enter Tryz.func183, Tryz.ntmps183
        go_wp2_with fail
        go_ret
        exact ⟨rfl, hka⟩
      · have e1 : chkTextOf tx at' ks pb = if pb = true then 4 else 0 := by simp only [chkTextOf, t0, t1, t2, or_self, if_false, Bool.false_eq_true]
        rw [e1]
        clear e1
        by_cases i0 : 0 < i
        · obtain ⟨pn, p9, hp9⟩ := hprev i0
          have p9a : ∀ o', (w.alloc o').cell? ⟨g, x + (i - 1) * 4, none⟩ = some (.string ⟨pn.toArray⟩) := fun o' => cell_keeps ((Keeps.refl [] w).alloc o') p9
          have i1 : ((i : Int) - 1) = ((i - 1 : Nat) : Int) := by omega
          have ib : i ≤ 9223372036854775807 := by omega
          rw [hp9]
          clear hprev hno hp9
          cases q : pn.isEmpty
          · rw [if_neg (by simp)]
            go_enter Tryz.func183, Tryz.ntmps183
            go_wp2_with fail
            go_ret
            exact ⟨rfl, hka⟩
          · rw [if_pos rfl]
            go_enter Tryz.func183, Tryz.ntmps183
            go_wp2_with fail
            go_ret
            exact ⟨rfl, hka⟩
        · have hi0 : i = 0 := by omega
          rw [hno hi0, if_neg (by simp)]
          clear hprev hno hi0
          go_enter Tryz.func183, Tryz.ntmps183
          go_wp2_with fail
          go_ret
          exact ⟨rfl, hka⟩
  · have e1 : chkTextOf tx at' ks pb = 1 := by simp only [chkTextOf, t0, true_or, if_true]
    rw [e1]
    clear hprev hno e1
    go_enter Tryz.func183, Tryz.ntmps183
    go_wp2_with fail
    go_ret
    exact ⟨rfl, hka⟩
end Go.Proofs.YtlcljanibjdejaaGreat
namespace Go.Proofs
open Go.Shelf
def Tryz.lays169_ren : Go.Shelf.Ren := ⟨fun | 169 => 98 | n => n, fun | 70 => 132 | 9 => 9 | 0 => 0 | 72 => 134 | 37 => 107 | 127 => 203 | 3 => 3 | 5 => 5 | n => n, fun | n => n⟩
theorem Tryz.lays169 : Go.Proofs.Lays.n169 Tryz.prog Tryz.lays169_ren := {
  mixed := by kernel_rfl
  f169 := Tryz.func98.trans (congrArg some (by kernel_rfl))
  t0 := Tryz.underlying0
  a0 := Tryz.isAgg0
  z0 := Tryz.sizeOf0
  v0 := Tryz.zeroValue0
  t3 := Tryz.underlying3
  a3 := Tryz.isAgg3
  z3 := Tryz.sizeOf3
  v3 := Tryz.zeroValue3
  t9 := Tryz.underlying9
  a9 := Tryz.isAgg9
  z9 := Tryz.sizeOf9
  v9 := Tryz.zeroValue9
  t37 := Tryz.underlying107
  a37 := Tryz.isAgg107
  z37 := Tryz.sizeOf107
  v37 := Tryz.zeroValue107
  t70 := Tryz.underlying132
  a70 := Tryz.isAgg132
  z70 := Tryz.sizeOf132
  v70 := Tryz.zeroValue132
  t72 := Tryz.underlying134
  a72 := Tryz.isAgg134
  z72 := Tryz.sizeOf134
  v72 := Tryz.zeroValue134
  t127 := Tryz.underlying203
  a127 := Tryz.isAgg203
  z127 := Tryz.sizeOf203
  v127 := Tryz.zeroValue203 }
theorem Tryz.Builder_Extra_169 : Builder.Extra Tryz.prog Tryz.lays169_ren := {
  sizeBuilder := by kernel_rfl
  liesBuilder := by kernel_rfl
  t5 := Tryz.underlying5
  a5 := Tryz.isAgg5
  z5 := Tryz.sizeOf5
  v5 := Tryz.zeroValue5
  infoByte := by kernel_rfl
  cellsByte := by kernel_rfl
  sizeByte := by kernel_rfl
  neB5 := by decide }
open Go.RowKit in
theorem Tryz.Builder_String_any (B b : Nat) (l : List UInt8) (w : World) (h : Lib.IsBuilder 134 5 B b (Lib.byteCells l) w) (hBw : B ≤ w.heap.size) :
    Calls Tryz.prog 98 #[.pointer (some ⟨b, 0, none⟩)] w fun e w' => e = .returned (.string ⟨l.toArray⟩) ∧ Below B w w' := Any.Builder_String_any Tryz.lays169 Tryz.Builder_Extra_169 B b l w h hBw
namespace YtlcljanibjdejaaGreat
open Go.RowKit
theorem size57 : (Tryz.prog.info? 134).map (fun j => j.size) = some 2 := by kernel_rfl
set_option maxHeartbeats 1000000 in
set_option maxRecDepth 100000 in
theorem copyCheck_used (b : Nat) (w : World) (h0 : w.cell? ⟨b, 0, none⟩ = some (.pointer (some ⟨b, 0, none⟩))) :
    Calls Tryz.prog 214 #[.pointer (some ⟨b, 0, none⟩)] w fun e w' => e = .returned (.tuple #[]) ∧ w' = w := by
  obtain ⟨j, hj, _⟩ := Option.map_eq_some_iff.1 size57
  go_enter Tryz.func214, Tryz.ntmps214
  go_wp2
  rw [Lib.run_neq_ptr_same w _ Tryz.underlying132 hj]
  go_wp2
  go_end0
  exact ⟨rfl, rfl⟩
set_option maxHeartbeats 1000000 in
set_option maxRecDepth 100000 in
theorem copyCheck_fresh (b : Nat) (w : World) (h0 : w.cell? ⟨b, 0, none⟩ = some (.pointer none)) (hsh : w.shape? b = some (134, 2)) (hfz : w.frozen? ⟨b, 0, none⟩ = false) :
    Calls Tryz.prog 214 #[.pointer (some ⟨b, 0, none⟩)] w fun e w' => e = .returned (.tuple #[]) ∧ w' = w.setCell ⟨b, 0, none⟩ (.pointer (some ⟨b, 0, none⟩)) := by
  obtain ⟨j, hj, hjs⟩ := Option.map_eq_some_iff.1 size57
  have hlies : liesAt Tryz.prog Tryz.prog.depth 134 (2 / Tryz.prog.cellsOf 134) 0 134 1 = true := by kernel_rfl
  go_enter Tryz.func214, Tryz.ntmps214
  go_wp2
  rw [Lib.run_to_unsafe w ⟨b, 0, none⟩ Tryz.underlying132 Tryz.underlying257 hj (by rw [hjs]; decide) hsh (Nat.zero_lt_succ 1)]
  simp only [Result.andThen]
  rw [Oper.upon_value]
  go_wp2
  rw [run_callFunc_extern Tryz.func283 (by kernel_rfl) (by kernel_rfl) (by kernel_rfl) (e := Extern.AbiNoEscape.same) (by kernel_rfl)]
  rw [Lib.run_noEscape]
  simp only [Result.andThen]
  rw [Oper.upon_value]
  go_wp2
  rw [Lib.run_from_unsafe w ⟨b, 0, none⟩ Tryz.underlying257 Tryz.underlying132 hj hsh hlies]
  simp only [Result.andThen]
  rw [Oper.upon_value]
  go_wp2
  go_end0
  exact ⟨rfl, rfl⟩
def IsBld (B b : Nat) (l : List UInt8) (w : World) : Prop := Lib.IsBuilder 134 5 B b (Lib.byteCells l) w
end YtlcljanibjdejaaGreat
end Go.Proofs
namespace Go.Proofs.YtlcljanibjdejaaGreat
open Go.RowKit Go.Maps
structure KeepsB (B b : Nat) (w w' : World) : Prop where
  os : w'.os = w.os
  tape : w'.tape = w.tape
  output : w'.output = w.output
  size : w.heap.size ≤ w'.heap.size
  block : ∀ k, k < w.heap.size → k ≠ b → (k < B ∨ ∀ cs f, w.heap[k]? ≠ some (.cells cs 5 f)) → w'.heap[k]? = w.heap[k]?
theorem KeepsB.refl (B b : Nat) (w : World) : KeepsB B b w w := ⟨rfl, rfl, rfl, Nat.le_refl _, fun _ _ _ _ => rfl⟩
theorem KeepsB.trans {B b : Nat} {x y z : World} (h : KeepsB B b x y) (k : KeepsB B b y z) : KeepsB B b x z :=
  ⟨k.os.trans h.os, k.tape.trans h.tape, k.output.trans h.output, Nat.le_trans h.size k.size, fun i hi hb hc =>
    (k.block i (Nat.lt_of_lt_of_le hi h.size) hb (by rw [h.block i hi hb hc]; exact hc)).trans (h.block i hi hb hc)⟩
theorem KeepsB.of {B b : Nat} {w w' : World} (h : Keeps [] w w') : KeepsB B b w w' := ⟨h.os, h.tape, h.output, h.size, fun k hk _ _ => h.block k hk List.not_mem_nil⟩
theorem KeepsB.nil {B b : Nat} {w0 w w' : World} (h0 : Keeps [] w0 w) (h : KeepsB B b w w') (hB : w0.heap.size ≤ B) (hb : B ≤ b) : Keeps [] w0 w' :=
  ⟨h.os.trans h0.os, h.tape.trans h0.tape, h.output.trans h0.output, Nat.le_trans h0.size h.size, fun k hk _ => (h.block k (Nat.lt_of_lt_of_le hk h0.size) (by omega) (.inl (by omega))).trans (h0.block k hk List.not_mem_nil)⟩
theorem KeepsB.tok {B b : Nat} {w w' : World} {g : Nat} {p : Tok × Value} (h : KeepsB B b w w') (ht : IsTok w g p) (hg : g ≠ b) : IsTok w' g p := by
  rw [IsTok, h.block g ht.lt hg (.inr (fun cs f e => by rw [show w.heap[g]? = _ from ht] at e; simp at e))]; exact ht
theorem KeepsB.pair {B b : Nat} {w w' : World} {g : Nat} {x y : ByteArray} (h : KeepsB B b w w') (ht : IsPair w g x y) (hg : g ≠ b) : IsPair w' g x y := by
  rw [IsPair, h.block g ht.lt hg (.inr (fun cs f e => by rw [show w.heap[g]? = _ from ht] at e; simp at e))]; exact ht
theorem KeepsB.set {B b : Nat} {w w' : World} (h : KeepsB B b w w') (j : Nat) (u : Value) : KeepsB B b w (w'.setCell ⟨b, j, none⟩ u) :=
  ⟨h.os, h.tape, h.output, Nat.le_trans h.size (by simp [World.setCell]), fun k hk hb hc => by rw [Below.heap_setCell _ _ _ _ hb]; exact h.block k hk hb hc⟩
theorem copyCheck_keeps (B b : Nat) (bs : List Value) (w : World) (h : Lib.IsBuilder 134 5 B b bs w) :
    Calls Tryz.prog 214 #[.pointer (some ⟨b, 0, none⟩)] w fun e w' => e = .returned (.tuple #[]) ∧ (Lib.BuilderAt 134 5 B b (.pointer (some ⟨b, 0, none⟩)) bs w' ∧ KeepsB B b w w') := by
  rcases h with h | h
  · refine (copyCheck_fresh b w h.cell0 h.shape h.frozen0).mono ?_
    rintro e w' ⟨rfl, rfl⟩
    exact ⟨rfl, h.used _, (KeepsB.refl B b w).set 0 _⟩
  · refine (copyCheck_used b w h.cell0).mono ?_
    rintro e w' ⟨rfl, rfl⟩
    exact ⟨rfl, h, KeepsB.refl _ _ _⟩
set_option maxHeartbeats 2000000 in
set_option maxRecDepth 100000 in
theorem write_str' (B b : Nat) (bs : List Value) (s : ByteArray) (w : World) (h : Lib.IsBuilder 134 5 B b bs w) (hlen : bs.length + s.size ≤ 140737488355328) (hBw : B ≤ w.heap.size) :
    Calls Tryz.prog 144 #[.pointer (some ⟨b, 0, none⟩), .string s] w fun e w' => e = .returned (.tuple #[.int .i64 s.size, .nilIface]) ∧ (Lib.BuilderAt 134 5 B b (.pointer (some ⟨b, 0, none⟩)) (bs ++ Lib.strCells s) w' ∧ KeepsB B b w w') := by
  obtain ⟨i0, hi, hz0, hz1, hz2⟩ := info_parts Tryz.info5
  go_enter Tryz.func144, Tryz.ntmps144
  go_wp2_with fail
  refine (copyCheck_keeps B b bs _ h).mono ?_
  rintro e w1 ⟨rfl, h1, hb1⟩
  obtain ⟨hB, v, hbk, hown, hne⟩ := h1
  have c0 : w1.cell? ⟨b, 0, none⟩ = some (.pointer (some ⟨b, 0, none⟩)) := by rw [Lib.cell_of_heap hbk]; rfl
  have c1 : w1.cell? ⟨b, 1, none⟩ = some v := by rw [Lib.cell_of_heap hbk]; rfl
  go_wp2_with (at_builtin; refine Lib.wpList_append_own_string _ rfl _ _ 107 9 rfl B 5 i0 Tryz.underlying107 Tryz.underlying9 hi hz0 hz1 hz2 _ _ _ rfl hown s rfl ?c3 ?c4 ?c5 ?_)
  case c3 => unfold maxLen; omega
  case c4 => omega
  case c5 => have := hb1.size; omega
  intro v' w2 hown' hgrow _
  have hlt : b < w1.heap.size := lt_of_block hbk
  have hb2 : w2.heap[b]? = some (.cells #[.pointer (some ⟨b, 0, none⟩), v] 134 (0, 0)) := by
    rw [hgrow.block b hlt (fun e => hne e.symm)]
    exact hbk
  have d0 : w2.cell? ⟨b, 0, none⟩ = some (.pointer (some ⟨b, 0, none⟩)) := by rw [Lib.cell_of_heap hb2]; rfl
  have d1 : w2.cell? ⟨b, 1, none⟩ = some v := by rw [Lib.cell_of_heap hb2]; rfl
  have f1 : w2.frozen? ⟨b, 1, none⟩ = false := Lib.frozen_of_heap hb2 1
  have hk2 : KeepsB B b w1 w2 := ⟨hgrow.os, hgrow.tape, hgrow.output, hgrow.size, fun k hk _ hc => hgrow.block k hk (fun e => by
    have hv := e.symm
    rcases hc with hc | hc
    · have := (hown.lt k hv).1; omega
    · rcases hown.2 with ⟨rfl, _⟩ | ⟨g, cap, cur, rfl, _, hg, _⟩
      · simp [Value.ownBlock] at hv
      · simp only [Value.ownBlock, Option.some.injEq] at hv
        rw [hv] at hg
        exact hc _ _ hg)⟩
  obtain ⟨ao, cap, rfl⟩ := row_form hown'
  go_wp2
  go_ret2
  refine ⟨rfl, ?_, (hb1.trans hk2).set 1 _⟩
  exact Lib.BuilderAt.put (T := 134) (e := 5) hB hb2 (bs' := bs ++ Lib.strCells s) (by simpa [Lib.strCells_length] using hown') (by decide)
theorem write_all (B b : Nat) (l t : List UInt8) (w : World) (h : IsBld B b l w) (hlen : l.length + t.length ≤ 1000000000) (hBw : B ≤ w.heap.size) :
    Calls Tryz.prog 144 #[.pointer (some ⟨b, 0, none⟩), .string ⟨t.toArray⟩] w fun e w' => e = .returned (.tuple #[.int .i64 t.length, .nilIface]) ∧ IsBld B b (l ++ t) w' ∧ KeepsB B b w w' := by
  refine (write_str' B b _ ⟨t.toArray⟩ w h (by rw [Lib.byteCells_length, str_size]; omega) hBw).mono ?_
  rintro e w' ⟨rfl, h1, h2⟩
  refine ⟨rfl, .inr ?_, h2⟩
  have e2 : Lib.byteCells (l ++ t) = Lib.byteCells l ++ Lib.strCells ⟨t.toArray⟩ := by simp [Lib.byteCells, Lib.strCells]
  rw [e2]
  exact h1
theorem IsBld.keeps {B b : Nat} {l : List UInt8} {w w' : World} (h : IsBld B b l w) (hk : Keeps [] w w') : IsBld B b l w' := by
  rcases h with ⟨hB, v, hb, ho, hne⟩ | ⟨hB, v, hb, ho, hne⟩
  · exact .inl ⟨hB, v, by rw [hk.block b (lt_of_block hb) List.not_mem_nil]; exact hb, hk.owns ho (fun _ _ => List.not_mem_nil), hne⟩
  · exact .inr ⟨hB, v, by rw [hk.block b (lt_of_block hb) List.not_mem_nil]; exact hb, hk.owns ho (fun _ _ => List.not_mem_nil), hne⟩
def pairP (p : Pair) : List UInt8 := [32] ++ p.1 ++ [61, 34] ++ putL p.2 ++ [34]
def pairsP (l : List Pair) : List UInt8 := l.flatMap pairP
def openP (t : Tok) : List UInt8 := [60] ++ t.name ++ pairsP t.attrs ++ [62]
def tokP (t : Tok) : List UInt8 := if t.kind = 1 then putL t.text else if t.kind = 2 then openP t else [60, 47] ++ t.name ++ [62]
def toksP (l : List Tok) : List UInt8 := l.flatMap tokP
theorem pairsP_take (l : List Pair) (k : Nat) (hk : k < l.length) : pairsP (l.take (k + 1)) = pairsP (l.take k) ++ pairP l[k] := by
  rw [List.take_succ_eq_append_getElem hk]
  unfold pairsP
  rw [List.flatMap_append]
  simp
theorem app2 (a x : List UInt8) : ((⟨a.toArray⟩ : ByteArray) ++ ⟨x.toArray⟩) = ⟨(a ++ x).toArray⟩ := WideShapes.bytes_inj (by simp)
theorem toksP_take (l : List (Tok × Value)) (k : Nat) (hk : k < l.length) : toksP ((l.take (k + 1)).map (·.1)) = toksP ((l.take k).map (·.1)) ++ tokP l[k].1 := by
  rw [List.take_succ_eq_append_getElem hk, List.map_append]
  unfold toksP
  rw [List.flatMap_append]
  simp
theorem bld_new (w : World) : IsBld w.heap.size w.heap.size [] (w.alloc (.cells #[.pointer none, .slice none 0 0] 134)) :=
  .inl ⟨Nat.le_refl _, .slice none 0 0, heap_alloc_new w _, World.ownsRow_nil _ _ _ _, by simp [Value.ownBlock]⟩
theorem lies_new (w : World) (cs : Array Value) (t : TypeId) (n z : Nat) (hn : n ≤ maxLen) (hz : cs.size = n * z) : Lies (w.alloc (.cells cs t)) (.slice (some ⟨w.heap.size, 0, none⟩) n n) n z cs.toList :=
  ⟨by simpa using hz, .inr (.inl ⟨_, 0, n, rfl, Nat.le_refl _, hn, fun j u hj => by
    have := lit_cells w cs t j u hj
    rw [add_zero] at this
    rw [Nat.zero_add]
    exact this⟩)⟩
def chkNodeOf (n : Nd) (b : List Nd) (i : Nat) (ar : List Nd) : Int :=
  if n.name.isEmpty = true then chkText b i
  else if (emptyN n.name && decide (0 < n.kids.length)) = true then 1
  else if chkL [⟨2, n.name, n.attrs, n.text⟩] ≠ 0 then chkL [⟨2, n.name, n.attrs, n.text⟩]
  else if closedL (ar.map Nd.name) n.name < ar.length then 4 else 0
def chkNode (b : List Nd) (i : Nat) (ar : List Nd) : Int :=
  match b[i]? with
  | none => 0
  | some n => chkNodeOf n b i ar
def FitsNs : List Nd → Prop
  | [] => True
  | .mk n a _ k :: r => (n.length ≤ maxLen ∧ Fits a) ∧ FitsNs k ∧ FitsNs r
theorem fits_mem {n : Nd} : {ns : List Nd} → FitsNs ns → n ∈ ns → (n.name.length ≤ maxLen ∧ Fits n.attrs) ∧ FitsNs n.kids
  | .mk m a t k :: r, h, hm => by
    unfold FitsNs at h
    rcases List.mem_cons.1 hm with rfl | hm
    · exact ⟨h.1, h.2.1⟩
    · exact fits_mem h.2.2 hm
theorem pns_named {w : World} {B : Nat} {av : Value} {pl : List Pn} (h : w.ownsRow B 45 4 av pl.length (pnsCells pl)) : Named w av ((pl.map Pn.nd).map Nd.name) := by
  rw [List.map_map]
  rcases h.2 with ⟨e, h0⟩ | ⟨g, cap, cur, e, hb, hg, h3, h4, _⟩
  · subst e
    refine ⟨none, 0, by simp [h0], by simp [h0], by simp [maxLen], fun i hi => ?_⟩
    simp [h0] at hi
  · subst e
    refine ⟨some ⟨g, 0, none⟩, cap, by simp, by simpa using h3, h4, fun i hi => ?_⟩
    rw [List.length_map] at hi
    refine ⟨g, 0, rfl, ?_⟩
    have h9 := pn_at pl i 0 hi (by omega)
    rw [Nat.add_zero] at h9
    rw [Nat.zero_add, h.cellAt _ (by omega), h9]
    simp [pnCells]
set_option maxRecDepth 4000 in
set_option maxHeartbeats 4000000 in
theorem checkNode_any (w : World) (P : Nat → Prop) (B1 : Nat) (v : Value) (ns : List Nd) (i : Nat) (av : Value) (pl : List Pn) (hN : Ns w P v ns) (hF : FitsNs ns) (hi : i < ns.length) (hrow : w.ownsRow B1 45 4 av pl.length (pnsCells pl)) (_hpl : pl.length ≤ 2000000) :
    Calls Tryz.prog 94 #[v, .int .i64 i, av] w fun e w' => e = .returned (.int .i64 (chkNode ns i (pl.map Pn.nd))) ∧ Keeps [] w w' := by
  have hct := hide (fun (W : World) (hk : Keeps [] w W) => checkText_any W P v ns i (hN.keeps0 hk) hi)
  have hc0 : chkNode ns i (pl.map Pn.nd) = chkNodeOf ns[i] ns i (pl.map Pn.nd) := by
    unfold chkNode
    rw [List.getElem?_eq_getElem hi]
  rw [hc0]
  have hfit := (fits_mem hF (List.getElem_mem hi)).1
  cases hN with
  | mk _ l _ hns hl ha hk =>
  obtain ⟨o, c', rfl, h1, h2⟩ := hl.lies.form
  obtain ⟨ao, ac, hav9⟩ := row_form hrow
  subst hav9
  have hil : i < l.length := by rw [← hns, List.length_map] at hi; exact hi
  have hni : ns[i] = l[i].nd := by subst hns; simp
  obtain ⟨g, x, rfl, hcl⟩ := hl.lies.addr (by omega)
  obtain ⟨a0, a1, a2, a3⟩ := lies_pn hcl i hil
  have hat := ha l[i] (List.getElem_mem hil)
  obtain ⟨oa, ca, hav⟩ := hat.form
  obtain ⟨ok, ck, hkv⟩ := (hk l[i] (List.getElem_mem hil)).form
  rw [hav] at a1 hat
  rw [hkv] at a3
  rw [hni] at hfit ⊢
  have hnmd := pns_named hrow
  have hcb := hide (fun (W : World) (hk : Keeps [] w W) => closedBy_any W (.slice ao pl.length ac) ((pl.map Pn.nd).map Nd.name) l[i].nd.name (pns_named (hk.owns hrow (fun _ _ => List.not_mem_nil))))
  have hcle := closedL_le ((pl.map Pn.nd).map Nd.name) l[i].nd.name
  unfold chkNodeOf
  clear hcl hav hkv ha hk hl hc0 hni hnmd hF
  simp only [List.length_map] at hcle ⊢
  generalize closedL ((pl.map Pn.nd).map Nd.name) l[i].nd.name = CL at *
  generalize l[i].nd = nd at *
  generalize chkText ns i = CT at *
  have hie := hide (fun W => isEmpty_any nd.name W)
  have hka : Keeps [] w (w.alloc (.cells #[.string ⟨nd.name.toArray⟩, .slice oa nd.attrs.length ca, .string ⟨nd.text.toArray⟩, .slice ok nd.kids.length ck] 45)) := (Keeps.refl [] w).alloc _
  have hck := hide (fun (W : World) (hk : Keeps [] w W) => check_any (W.alloc (.cells #[.int .i64 2, .string ⟨nd.name.toArray⟩, .slice oa nd.attrs.length ca, .string ⟨nd.text.toArray⟩] 117)) (.slice (some ⟨W.heap.size, 0, none⟩) 1 1) [⟨2, nd.name, nd.attrs, nd.text⟩] ⟨[(⟨2, nd.name, nd.attrs, nd.text⟩, .slice oa nd.attrs.length ca)], rfl, lies_new W _ 117 1 4 (by decide) rfl, by intro p hp; simp at hp; subst hp; exact hat.lies.keeps (hk.trans ((Keeps.refl [] W).alloc _))⟩ (by intro t ht; simp at ht; subst ht; exact hfit))
  generalize chkL [⟨2, nd.name, nd.attrs, nd.text⟩] = E at *
  generalize emptyN nd.name = EN at *
  clear hat hfit hrow
  generalize nd.attrs.length = na at *
  generalize nd.kids.length = nk at *
  generalize nd.name = nm at *
  generalize nd.text = tx at *
  unfold maxLen at h2
  clear hns hi
  cases t0 : nm.isEmpty
  · rw [if_neg (by simp)]
    obtain ⟨W1, hW1⟩ : ∃ W1, w.alloc (.cells #[.string ⟨nm.toArray⟩, .slice oa na ca, .string ⟨tx.toArray⟩, .slice ok nk ck] 45) = W1 := ⟨_, rfl⟩
    have hbx : W1.heap[w.heap.size]? = some (.cells #[.string ⟨nm.toArray⟩, .slice oa na ca, .string ⟨tx.toArray⟩, .slice ok nk ck] 45 (0, 0)) := by rw [← hW1]; exact heap_alloc_new w _
    rw [hW1] at hka
    have HW1 := hide hW1
    clear hW1 hct
    have k0 : W1.cell? ⟨w.heap.size, 0, none⟩ = some (.string ⟨nm.toArray⟩) := cell_blk hbx 0
    have k1 : W1.cell? ⟨w.heap.size, 1, none⟩ = some (.slice oa na ca) := cell_blk hbx 1
    have k2 : W1.cell? ⟨w.heap.size, 2, none⟩ = some (.string ⟨tx.toArray⟩) := cell_blk hbx 2
    have k3 : W1.cell? ⟨w.heap.size, 3, none⟩ = some (.slice ok nk ck) := cell_blk hbx 3
    have hkb : Keeps [] w (W1.alloc (.cells #[.int .i64 2, .string ⟨nm.toArray⟩, .slice oa na ca, .string ⟨tx.toArray⟩] 117)) := hka.alloc _
    have hc1 := hck.out _ hkb
    have hsz1 : (W1.alloc (.cells #[.int .i64 2, .string ⟨nm.toArray⟩, .slice oa na ca, .string ⟨tx.toArray⟩] 117)).heap.size = W1.heap.size + 1 := by simp
    rw [hsz1] at hc1
    have HC1 := hide hc1
    clear hc1 hsz1 hck
    obtain ⟨R, hR⟩ : ∃ R, (if (EN && decide (0 < nk)) = true then (1 : Int) else if E ≠ 0 then E else if CL < pl.length then 4 else 0) = R := ⟨_, rfl⟩
    rw [hR]
    cases EN
    · rw [Bool.false_and, if_neg (by simp)] at hR
      have HR := hide hR
      clear hR
      go_enter Tryz.func94, Tryz.ntmps94
      go_wp2_with fail
      rw [HW1.out]
      refine (hie.out _).mono ?_
      rintro e w1 ⟨rfl, h1'⟩
      obtain rfl : W1 = w1 := h1'.symm
      go_wp2_with fail
      refine HC1.out.mono ?_
      rintro e w3 ⟨rfl, hk3⟩
      have hk03 := (hkb.alloc _).trans hk3
      by_cases hE : E = 0
      · subst hE
        have n3 : w3.cell? ⟨w.heap.size, 0, none⟩ = some (.string ⟨nm.toArray⟩) := cell_keeps (((Keeps.refl [] W1).alloc _).alloc _ |>.trans hk3) k0
        by_cases hC : CL < pl.length
        · have hRe : R = 4 := by rw [← HR.out, if_neg (by simp), if_pos hC]
          subst hRe
          have hCi : (CL : Int) < (pl.length : Int) := by omega
          go_wp2_with fail
          refine (hcb.out _ hk03).mono ?_
          rintro e w4 ⟨rfl, h4⟩
          obtain rfl : w3 = w4 := h4.symm
          go_wp2_with fail
          go_ret
          exact ⟨rfl, hk03⟩
        · have hRe : R = 0 := by rw [← HR.out, if_neg (by simp), if_neg hC]
          subst hRe
          have hCi : ¬ (CL : Int) < (pl.length : Int) := by omega
          go_wp2_with fail
          refine (hcb.out _ hk03).mono ?_
          rintro e w4 ⟨rfl, h4⟩
          obtain rfl : w3 = w4 := h4.symm
          go_wp2_with fail
          go_ret
          exact ⟨rfl, hk03⟩
      · have hRe : R = E := by rw [← HR.out, if_pos hE]
        subst hRe
        have hEb : (R != 0) = true := by simpa using hE
        go_wp2_with fail
        go_ret
        exact ⟨rfl, hk03⟩
    · by_cases hn : 0 < nk
      · have hnb : (true && decide (0 < nk)) = true := by simpa using hn
        rw [if_pos hnb] at hR
        subst hR
        clear hcb
        go_enter Tryz.func94, Tryz.ntmps94
        go_wp2_with fail
        rw [HW1.out]
        refine (hie.out _).mono ?_
        rintro e w1 ⟨rfl, h1'⟩
        obtain rfl : W1 = w1 := h1'.symm
        go_wp2_with fail
        go_ret
        exact ⟨rfl, hka⟩
      · have hnb : ¬ (true && decide (0 < nk)) = true := by simpa using hn
        rw [if_neg hnb] at hR
        have HR := hide hR
        clear hR hnb
        go_enter Tryz.func94, Tryz.ntmps94
        go_wp2_with fail
        rw [HW1.out]
        refine (hie.out _).mono ?_
        rintro e w1 ⟨rfl, h1'⟩
        obtain rfl : W1 = w1 := h1'.symm
        go_wp2_with fail
        refine HC1.out.mono ?_
        rintro e w3 ⟨rfl, hk3⟩
        have hk03 := (hkb.alloc _).trans hk3
        by_cases hE : E = 0
        · subst hE
          have n3 : w3.cell? ⟨w.heap.size, 0, none⟩ = some (.string ⟨nm.toArray⟩) := cell_keeps (((Keeps.refl [] W1).alloc _).alloc _ |>.trans hk3) k0
          by_cases hC : CL < pl.length
          · have hRe : R = 4 := by rw [← HR.out, if_neg (by simp), if_pos hC]
            subst hRe
            have hCi : (CL : Int) < (pl.length : Int) := by omega
            go_wp2_with fail
            refine (hcb.out _ hk03).mono ?_
            rintro e w4 ⟨rfl, h4⟩
            obtain rfl : w3 = w4 := h4.symm
            go_wp2_with fail
            go_ret
            exact ⟨rfl, hk03⟩
          · have hRe : R = 0 := by rw [← HR.out, if_neg (by simp), if_neg hC]
            subst hRe
            have hCi : ¬ (CL : Int) < (pl.length : Int) := by omega
            go_wp2_with fail
            refine (hcb.out _ hk03).mono ?_
            rintro e w4 ⟨rfl, h4⟩
            obtain rfl : w3 = w4 := h4.symm
            go_wp2_with fail
            go_ret
            exact ⟨rfl, hk03⟩
        · have hRe : R = E := by rw [← HR.out, if_pos hE]
          subst hRe
          have hEb : (R != 0) = true := by simpa using hE
          go_wp2_with fail
          go_ret
          exact ⟨rfl, hk03⟩
  · rw [if_pos rfl]
    go_enter Tryz.func94, Tryz.ntmps94
    go_wp2_with fail
    refine (hct.out _ hka).mono ?_
    rintro e w1 ⟨rfl, hk1⟩
    go_wp2_with fail
    go_ret
    exact ⟨rfl, hka.trans hk1⟩
theorem enters94 : Enters 94 := enters_of Tryz.func94 (by kernel_rfl) (by kernel_rfl)
theorem enters182 : Enters 182 := enters_of Tryz.func182 (by kernel_rfl) (by kernel_rfl)
def nodeF (_ : Int) (b : List Nd) (i : Nat) (ar : List Nd) : Int × Bool := (chkNode b i ar, chkNode b i ar == 0)
def IsFn (w : World) (b : Nat) : Prop := w.heap[b]? = some (.cells #[.func (.func 94) #[] #[]] 129 (0, 0))
theorem IsFn.keeps {S : List Nat} {w w' : World} {b : Nat} (h : IsFn w b) (hk : Keeps S w w') (hb : b ∉ S) : IsFn w' b := by
  unfold IsFn at *
  rw [hk.block b (lt_of_block h) hb]; exact h
set_option maxRecDepth 4000 in
set_option maxHeartbeats 2000000 in
theorem check1_any (P : Nat → Prop) (B1 b c : Nat) (s : Int) (w : World) (v : Value) (ns : List Nd) (i : Nat) (av : Value) (pl : List Pn) (hbc : b ≠ c) (hf : IsFn w b) (hI : IsNum w c 22 s) (hN : Ns w P v ns) (hF : FitsNs ns) (hi : i < ns.length) (hrow : w.ownsRow B1 45 4 av pl.length (pnsCells pl)) (hpl : pl.length ≤ 2000000) :
    Calls Tryz.prog 182 #[v, .int .i64 i, av, .pointer (some ⟨b, 0, none⟩), .pointer (some ⟨c, 0, none⟩)] w fun e w' => e = .returned (.bool (chkNode ns i (pl.map Pn.nd) == 0)) ∧ (IsFn w' b ∧ IsNum w' c 22 (chkNode ns i (pl.map Pn.nd))) ∧ Keeps [c] w w' := by
  have hcn := hide (checkNode_any w P B1 v ns i av pl hN hF hi hrow hpl)
  generalize chkNode ns i (pl.map Pn.nd) = E at *
  obtain ⟨o, c', hv⟩ := hN.form
  subst hv
  obtain ⟨ao, ac, hav⟩ := row_form hrow
  subst hav
  have k0 : w.cell? ⟨b, 0, none⟩ = some (.func (.func 94) #[] #[]) := cell_blk hf 0
  have hE := enters94
  unfold Enters at hE
  clear hN hrow hF
  go_enter Tryz.func182, Tryz.ntmps182
  go_wp2_with fail
  refine hcn.out.mono ?_
  rintro e w1 ⟨rfl, hk1⟩
  have hf1 := hf.keeps hk1 List.not_mem_nil
  have hI1 := hI.keeps hk1 List.not_mem_nil
  have n0 : w1.cell? ⟨c, 0, none⟩ = some (.int .i64 s) := cell_blk hI1 0
  have n1 : w1.frozen? ⟨c, 0, none⟩ = false := free_blk hI1 0
  clear hcn
  go_wp2_with fail
  go_ret
  have hks : Keeps [c] w1 (w1.setCell ⟨c, 0, none⟩ (.int .i64 E)) := (Keeps.refl [c] w1).setCell (.inl (by simp)) _
  exact ⟨rfl, ⟨hf1.keeps hks (by simpa using hbc), hI1.set E⟩, keeps_within (hk1.to (T := [c]) (by simp)) hks (fun g hg _ => hg)⟩
theorem check_vis (b c B1 : Nat) (hb : b < c) (h : c < B1) : Vis 182 #[.pointer (some ⟨b, 0, none⟩), .pointer (some ⟨c, 0, none⟩)] nodeF (fun s w => IsFn w b ∧ IsNum w c 22 s) [c] B1 (fun g => g < b) FitsNs where
  call s w v ns i av pl hI hN hF hi hrow hpl _ := check1_any _ B1 b c s w v ns i av pl (by omega) hI.1 hI.2 hN hF hi hrow hpl
  stable s w w' L hL hI hk := ⟨hI.1.keeps hk (fun hm => by have := hL b hm; omega), hI.2.keeps hk (fun hm => by have := hL c hm; omega)⟩
  down ns hF n hn := (fits_mem hF hn).2
  low g hg := by simp at hg; omega
  enters := enters182
  part g hg := ⟨by omega, by simp; omega⟩
def chkTree (ns : List Nd) : Int := if (walkL fitsF ns ns 0 [] 0).2 = true then (walkL nodeF ns ns 0 [] 0).1 else 2
set_option maxRecDepth 4000 in
set_option maxHeartbeats 2000000 in
theorem nodesCheck_any (w : World) (P : Nat → Prop) (v : Value) (ns : List Nd) (h : Ns w P v ns) (hsz : sizeNs ns ≤ 2000000) (hF : FitsNs ns) :
    Calls Tryz.prog 93 #[v, .func (.func 94) #[] #[]] w fun e w' => e = .returned (.int .i64 (chkTree ns)) ∧ Keeps [] w w' := by
  unfold chkTree
  have hka : Keeps [] w (w.alloc (.cells #[.func (.func 94) #[] #[]] 129)) := (Keeps.refl [] w).alloc _
  have hbx : IsFn (w.alloc (.cells #[.func (.func 94) #[] #[]] 129)) w.heap.size := heap_alloc_new w _
  obtain ⟨W, hW⟩ : ∃ W, w.alloc (.cells #[.func (.func 94) #[] #[]] 129) = W := ⟨_, rfl⟩
  rw [hW] at hka hbx
  have HW := hide hW
  clear hW
  have hfi := hide (fits_any W P v ns (h.keeps0 hka) hsz)
  have hlow : Ns w (fun g => g < w.heap.size) v ns := h.lt
  have hlt : w.heap.size < W.heap.size := lt_of_block hbx
  have hwk := hide (fun (W1 : World) (hk1 : Keeps [] W W1) => Walk_any (check_vis w.heap.size W1.heap.size (W1.heap.size + 1) (Nat.lt_of_lt_of_le hlt hk1.size) (by omega)) (W1.alloc (.cells #[.int .i64 0] 22)) v ns (hlow.keeps0 ((hka.trans hk1).alloc _)) 0 ⟨(hbx.keeps hk1 List.not_mem_nil).keeps ((Keeps.refl [] W1).alloc _) List.not_mem_nil, heap_alloc_new W1 _⟩ (by simp) hsz hF)
  generalize walkL nodeF ns ns 0 [] 0 = R at *
  obtain ⟨o, c', hv⟩ := h.form
  subst hv
  clear hlow h
  cases hb : (walkL fitsF ns ns 0 [] 0).2
  · rw [hb] at hfi
    rw [if_neg (by simp)]
    clear hb hwk
    go_enter Tryz.func93, Tryz.ntmps93
    go_wp2_with fail
    rw [HW.out]
    refine hfi.out.mono ?_
    rintro e w1 ⟨rfl, hk1⟩
    go_wp2_with fail
    go_ret
    exact ⟨rfl, hka.trans hk1⟩
  · rw [hb] at hfi
    rw [if_pos rfl]
    clear hb
    go_enter Tryz.func93, Tryz.ntmps93
    go_wp2_with fail
    rw [HW.out]
    refine hfi.out.mono ?_
    rintro e w1 ⟨rfl, hk1⟩
    go_wp2_with fail
    refine (hwk.out w1 hk1).mono ?_
    rintro e w2 ⟨rfl, ⟨_, hn2⟩, hk2⟩
    have n0 : w2.cell? ⟨w1.heap.size, 0, none⟩ = some (.int .i64 R.1) := cell_blk hn2 0
    go_wp2_with fail
    go_ret
    refine ⟨rfl, keeps_within ((hka.trans hk1).alloc _) hk2 (fun g hg hlt2 => ?_)⟩
    simp at hg
    have := hka.size
    have := hk1.size
    omega
theorem treeCheck_any (w : World) (P : Nat → Prop) (v : Value) (ns : List Nd) (h : Ns w P v ns) (hsz : sizeNs ns ≤ 2000000) (hF : FitsNs ns) :
    Calls Tryz.prog 26 #[v] w fun e w' => e = .returned (.int .i64 (chkTree ns)) ∧ Keeps [] w w' := by
  have hc := hide (nodesCheck_any w P v ns h hsz hF)
  generalize chkTree ns = R at *
  obtain ⟨o, c', hv⟩ := h.form
  subst hv
  clear h
  go_enter Tryz.func26, Tryz.ntmps26
  go_wp2_with fail
  refine hc.out.mono ?_
  rintro e w1 ⟨rfl, hk1⟩
  go_wp2_with fail
  go_ret
  exact ⟨rfl, hk1⟩
end Go.Proofs.YtlcljanibjdejaaGreat

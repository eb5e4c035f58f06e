/- nodes.walk, for any visitor. nodes.walk. -/
import Derived.Test.YtlcljanibjdejaaGreatSo09
namespace Go.Proofs.YtlcljanibjdejaaGreat
open Go.RowKit Go.Maps
/-- An append of one node onto a row of one's own, which is not changed as far as it went. -/
theorem run_append_keep {P : Program} (w : World) (base : Nat) (t ty e : TypeId) (i : TypeInfo) (z : Value) (size bytes : Nat) (ht : P.underlying t = some (.slice e)) (hi : P.info? e = some i) (hz : i.zero = some z)
    (hsize : i.size = size) (hby : i.bytes = bytes) (hzs : z.cells.size = size) (hsz : 0 < size)
    (v : Value) (n : Nat) (xs : List Value) (hown : w.ownsRow base e size v n xs)
    (a : Addr) (c : Nat) (news : List Value) (hl : news.length = size) (hnews : ∀ j u, news[j]? = some u → w.cell? (a.add j) = some u) (h1 : ∀ u ∈ news, u.oneCell' = true)
    (h63 : n + 1 ≤ maxLen) (hbytes : (n + 1) * bytes ≤ 140737488355328) (hbase : base ≤ w.heap.size) :
    ∃ v' w', (Builtin.append_ #[t, t] ty #[v, .slice (some a) 1 c]).run P w = .ok v' w' ∧ w'.ownsRow base e size v' (n + 1) (xs ++ news) ∧ w.grownBy w' v.ownBlock ∧
      ((∃ g cap, v = .slice (some ⟨g, 0, none⟩) n cap ∧ v' = .slice (some ⟨g, 0, none⟩) (n + 1) cap) ∨ (v'.ownBlock = some w.heap.size ∧ Keeps [] w w')) := by
  obtain ⟨v', w', hr, h2, h3, _⟩ := run_append_own (P := P) w base t ty e i z size bytes ht hi hz hsize hby hzs hsz v n xs hown a 1 c news (by rw [hl, Nat.one_mul]) hnews h1 h63 hbytes hbase
  refine ⟨v', w', hr, h2, h3, ?_⟩
  have hsmall : n + 1 ≤ 9223372036854775807 := by simp only [maxLen] at h63; omega
  subst hsize
  subst hby
  rcases hown.2 with ⟨rfl, rfl⟩ | ⟨g, cap, cur, rfl, hbg, hg, hnc, hcm, hcs, htake⟩
  · have hr2 := run_append_nil (P := P) w t ty e i z ht hi hz a 1 c news (by rw [hl, Nat.one_mul]) hnews (by omega) (by omega) (by simp only [Nat.zero_add] at hbytes; omega)
    rw [hr] at hr2
    simp only [Result.ok.injEq] at hr2
    obtain ⟨rfl, rfl⟩ := hr2
    exact .inr ⟨rfl, ((Keeps.refl [] w).drew).alloc _⟩
  · by_cases hroom : n + 1 ≤ cap
    · have hfit : n * i.size + news.length ≤ cur.size := by
        rw [hl, hcs]
        have := Nat.mul_le_mul_right i.size hroom
        rw [Nat.add_mul, Nat.one_mul] at this
        exact this
      have hr2 := run_append_room (P := P) w t ty e i ht hi g n cap cur hg a 1 c news (by rw [hl, Nat.one_mul]) hnews h1 hroom hfit
      rw [hr] at hr2
      simp only [Result.ok.injEq] at hr2
      exact .inl ⟨g, cap, rfl, hr2.1⟩
    · have holds : ∀ j u, xs[j]? = some u → w.cell? ((⟨g, 0, none⟩ : Addr).add j) = some u := hown.cells (g := g) rfl
      have hr2 := run_append_grow (P := P) w t ty e i z ht hi hz ⟨g, 0, none⟩ n cap xs hown.1 holds a 1 c news (by rw [hl, Nat.one_mul]) hnews (by omega) (by omega) (growslice_fits (by omega) hbytes)
      rw [hr] at hr2
      simp only [Result.ok.injEq] at hr2
      obtain ⟨rfl, rfl⟩ := hr2
      exact .inr ⟨rfl, ((Keeps.refl [] w).drew).alloc _⟩
theorem step_keep {P : Program} {ops : Array Oper} {o : Oper} {a : Act} {w : World} {K : Act → World → Prop} {Q : Exit → Act → World → Prop} {E : Prop} (hg : Region.wanted o (yielded ops a.tmps) = true) (s x : Operand) (t : TypeId)
    (ho : o.op = .call { callee := .builtin .append, args := #[s, x], argTypes := #[t, t] })
    (base : Nat) (e : TypeId) (i : TypeInfo) (z : Value) (size bytes : Nat) (ht : P.underlying t = some (.slice e)) (hi : P.info? e = some i) (hz : i.zero = some z)
    (hsize : i.size = size) (hby : i.bytes = bytes) (hzs : z.cells.size = size) (hsz : 0 < size)
    (v : Value) (n : Nat) (xs : List Value) (hs : a.eval s = v) (hown : w.ownsRow base e size v n xs)
    (ad : Addr) (c : Nat) (news : List Value) (hx : a.eval x = .slice (some ad) 1 c) (hl : news.length = size) (hnews : ∀ j u, news[j]? = some u → w.cell? (ad.add j) = some u) (h1 : ∀ u ∈ news, u.oneCell' = true)
    (h63 : n + 1 ≤ maxLen) (hbytes : (n + 1) * bytes ≤ 140737488355328) (hbase : base ≤ w.heap.size)
    (h : ∀ v' w', w'.ownsRow base e size v' (n + 1) (xs ++ news) → w.grownBy w' v.ownBlock → ((∃ g cap, v = .slice (some ⟨g, 0, none⟩) n cap ∧ v' = .slice (some ⟨g, 0, none⟩) (n + 1) cap) ∨ (v'.ownBlock = some w.heap.size ∧ Keeps [] w w')) → K (a.put o.dst v') w') :
    if Region.wanted o (yielded ops a.tmps) = true then Oper.wp P o a w K Q else E := by
  rw [if_pos hg]
  obtain ⟨v', w', hr, h2, h3, h5⟩ := run_append_keep (P := P) w base t o.type e i z size bytes ht hi hz hsize hby hzs hsz v n xs hown ad c news hl hnews h1 h63 hbytes hbase
  unfold Oper.wp execOp
  simp only [ho, resolve, invoke, builtin, Sem.run_bind, Sem.run_pure, Result.andThen_ok, List.map_toArray, List.map_cons, List.map_nil, hs, hx, hr]
  exact h v' w' h2 h3 h5
/-- A call of a function value, or of a function, as a step of a region. -/
theorem step_callv {ops : Array Oper} {o : Oper} {a : Act} {w : World} {K : Act → World → Prop} {Q : Exit → Act → World → Prop} {E : Prop} (hg : Region.wanted o (yielded ops a.tmps) = true)
    (c : Operand) (xs : Array Operand) (ts : Array TypeId) (hop : o.op = .call { callee := .value c, args := xs, argTypes := ts }) (f : FuncId) (caps : Array Value) (hc : a.eval c = .func (.func f) #[] caps) (hE : Enters f) (args : Array Value) (hxs : xs.map a.eval = args)
    {R : Ending → World → Prop} (hcl : Calls Tryz.prog f (args ++ caps) w R) (hK : ∀ e w', R e w' → ∃ v, e = .returned v ∧ K (a.put o.dst v) w') :
    if Region.wanted o (yielded ops a.tmps) = true then Oper.wp Tryz.prog o a w K Q else E := by
  rw [if_pos hg]
  have hr : (execOp a.eval o).run Tryz.prog w = .ok (.enter f (args ++ caps)) w := by
    have hE' := hE (args ++ caps) w
    simp [execOp, hop, resolve, invoke, hc, Deferred.ofValue, hxs, hE']
  unfold Oper.wp
  rw [hr, Oper.upon_enter]
  refine hcl.mono fun e w' h => ?_
  obtain ⟨v, rfl, hk⟩ := hK e w' h
  exact hk
/-- A walk through nodes: what the visitor says of each goes along. -/
def walkL {σ : Type} (f : σ → List Nd → Nat → List Nd → σ × Bool) : List Nd → List Nd → Nat → List Nd → σ → σ × Bool
  | _, [], _, _, s => (s, true)
  | b, .mk n a t k :: r, i, ar, s =>
    if (f s b i ar).2 = true then
      (if (walkL f k k 0 (ar ++ [.mk n a t k]) (f s b i ar).1).2 = true then walkL f b r (i + 1) ar (walkL f k k 0 (ar ++ [.mk n a t k]) (f s b i ar).1).1
      else ((walkL f k k 0 (ar ++ [.mk n a t k]) (f s b i ar).1).1, false))
    else ((f s b i ar).1, false)
theorem walkL_cons {σ : Type} (f : σ → List Nd → Nat → List Nd → σ × Bool) (b : List Nd) (n : Nd) (r : List Nd) (i : Nat) (ar : List Nd) (s : σ) : walkL f b (n :: r) i ar s =
    if (f s b i ar).2 = true then
      (if (walkL f n.kids n.kids 0 (ar ++ [n]) (f s b i ar).1).2 = true then walkL f b r (i + 1) ar (walkL f n.kids n.kids 0 (ar ++ [n]) (f s b i ar).1).1
      else ((walkL f n.kids n.kids 0 (ar ++ [n]) (f s b i ar).1).1, false))
    else ((f s b i ar).1, false) := by
  obtain ⟨n, a, t, k⟩ := n
  rw [walkL]
  rfl
/-- How many nodes there are. -/
def sizeNs : List Nd → Nat
  | [] => 0
  | .mk _ _ _ k :: r => 1 + sizeNs k + sizeNs r
theorem sizeNs_cons (n : Nd) (r : List Nd) : sizeNs (n :: r) = 1 + sizeNs n.kids + sizeNs r := by
  obtain ⟨n, a, t, k⟩ := n
  rw [sizeNs]
  rfl
theorem sizeNs_mem {n : Nd} : {ns : List Nd} → n ∈ ns → sizeNs n.kids < sizeNs ns
  | m :: r, h => by
    rw [sizeNs_cons]
    rcases List.mem_cons.1 h with rfl | h
    · omega
    · have := sizeNs_mem h; omega
/-- A visitor: what it says is f, what it knows lies in I, what it changes in S. -/
structure Vis {σ : Type} (K : Nat) (caps : Array Value) (f : σ → List Nd → Nat → List Nd → σ × Bool) (I : σ → World → Prop) (S : List Nat) (B1 : Nat) (P : Nat → Prop) (F : List Nd → Prop) : Prop where
  call : ∀ (s : σ) (w : World) (v : Value) (ns : List Nd) (i : Nat) (av : Value) (pl : List Pn), I s w → Ns w P v ns → F ns → i < ns.length → w.ownsRow B1 45 4 av pl.length (pnsCells pl) → pl.length ≤ 2000000 → B1 ≤ w.heap.size →
    Calls Tryz.prog K (#[v, .int .i64 i, av] ++ caps) w fun e w' => e = .returned (.bool (f s ns i (pl.map Pn.nd)).2) ∧ I (f s ns i (pl.map Pn.nd)).1 w' ∧ Keeps S w w'
  stable : ∀ (s : σ) (w w' : World) (L : List Nat), (∀ g, g ∈ L → B1 ≤ g) → I s w → Keeps L w w' → I s w'
  down : ∀ ns, F ns → ∀ n ∈ ns, F n.kids
  low : ∀ g, g ∈ S → g < B1
  enters : Enters K
  part : ∀ g, P g → g < B1 ∧ g ∉ S
end Go.Proofs.YtlcljanibjdejaaGreat
namespace Go.Proofs.YtlcljanibjdejaaGreat
open Go.RowKit Go.Maps
theorem enters171 : Enters 171 := enters_of Tryz.func171 (by kernel_rfl) (by kernel_rfl)
/-- What a walk may change. -/
def chgW (S : List Nat) (av : Value) : List Nat := S ++ av.ownBlock.toList
theorem row_shrink {w : World} {B g cap n : Nat} {xs : List Value} {p : Pn} (hx : xs.length = n * 4) (h : w.ownsRow B 45 4 (.slice (some ⟨g, 0, none⟩) (n + 1) cap) (n + 1) (xs ++ pnCells p)) : w.ownsRow B 45 4 (.slice (some ⟨g, 0, none⟩) n cap) n xs := ownsRow_pop hx h
theorem Ns.form {w : World} {P : Nat → Prop} {v : Value} {ns : List Nd} (h : Ns w P v ns) : ∃ o c, v = .slice o ns.length c := by
  cases h with
  | mk v l ns e h ha hk =>
    obtain ⟨o, c, h⟩ := h.form
    exact ⟨o, c, by rw [h, ← e, List.length_map]⟩
theorem keeps_within {S T : List Nat} {a b c : World} (h : Keeps T a b) (k : Keeps S b c) (hS : ∀ g, g ∈ S → g < a.heap.size → g ∈ T) : Keeps T a c :=
  ⟨k.os.trans h.os, k.tape.trans h.tape, k.output.trans h.output, Nat.le_trans h.size k.size, fun i hi hT => (k.block i (Nat.lt_of_lt_of_le hi h.size) (fun hm => hT (hS i hm hi))).trans (h.block i hi hT)⟩
theorem pn_one {nd : Nd} {qo ko : Option Addr} {qn qc kn kc : Nat} : ∀ u ∈ pnCells ⟨nd, .slice qo qn qc, .slice ko kn kc⟩, u.oneCell' = true := by
  intro u hu
  simp [pnCells] at hu
  rcases hu with rfl | rfl | rfl | rfl <;> rfl
theorem put_get {A : Act} {j d : Nat} {u v : Value} (h : A.tmps[j]? = some u) (hd : d ≠ j) : (A.put (some d) v).tmps[j]? = some u := by
  simp only [Act.put]
  rw [Array.getElem?_setIfInBounds_ne hd]
  exact h
theorem put_size (A : Act) (d : Option Nat) (v : Value) : (A.put d v).tmps.size = A.tmps.size := by cases d <;> simp [Act.put]
theorem put_same {A : Act} {d : Nat} {v : Value} (h : d < A.tmps.size) : (A.put (some d) v).tmps[d]? = some v := by
  simp only [Act.put]
  rw [Array.getElem?_setIfInBounds_self_of_lt h]
theorem wanted_yes {ops : Array Oper} {A : Act} {o o6 : Oper} {b : Bool} {j d : Nat} (hg : o.guard = some (j, b)) (h6 : ops[j]? = some o6) (h7 : o6.dst = some d) (h : A.tmps[d]? = some (.bool b)) : Region.wanted o (yielded ops A.tmps) = true := by
  simp [Region.wanted, hg, yielded, h6, h7, h]
theorem step_run {P : Program} {ops : Array Oper} {o : Oper} {a : Act} {w : World} {K : Act → World → Prop} {Q : Exit → Act → World → Prop} {E : Prop} (hg : Region.wanted o (yielded ops a.tmps) = true) {v : Value} {w' : World}
    (hr : (execOp a.eval o).run P w = .ok (.value v) w') (h : K (a.put o.dst v) w') : if Region.wanted o (yielded ops a.tmps) = true then Oper.wp P o a w K Q else E := by
  rw [if_pos hg]
  unfold Oper.wp
  rw [hr]
  exact h
theorem wanted_no {ops : Array Oper} {A : Act} {o o6 : Oper} {b c : Bool} {j d : Nat} (hg : o.guard = some (j, b)) (h6 : ops[j]? = some o6) (h7 : o6.dst = some d) (h : A.tmps[d]? = some (.bool c)) (hbc : c ≠ b) : Region.wanted o (yielded ops A.tmps) = false := by
  simp [Region.wanted, hg, yielded, h6, h7, h, hbc]
set_option maxRecDepth 8000 in
set_option maxHeartbeats 8000000 in
theorem walk_all {σ : Type} {K : Nat} {caps : Array Value} {f : σ → List Nd → Nat → List Nd → σ × Bool} {I : σ → World → Prop} {S : List Nat} {B1 : Nat} {P : Nat → Prop} {F : List Nd → Prop} (V : Vis K caps f I S B1 P F)
    (w0 : World) (v : Value) (ns : List Nd) (h : Ns w0 P v ns) : ∀ (w : World) (L : List Nat), Keeps L w0 w → (∀ g, P g → g ∉ L) → ∀ (s : σ) (av : Value) (pl : List Pn), I s w → w.ownsRow B1 45 4 av pl.length (pnsCells pl) → B1 ≤ w.heap.size → pl.length + sizeNs ns ≤ 2000000 → F ns →
    Calls Tryz.prog 171 #[v, av, .func (.func K) #[] caps] w fun e w' => e = .returned (.bool (walkL f ns ns 0 (pl.map Pn.nd) s).2) ∧ I (walkL f ns ns 0 (pl.map Pn.nd) s).1 w' ∧ w'.ownsRow B1 45 4 av pl.length (pnsCells pl) ∧ Keeps (chgW S av) w w' := by
  induction h with
  | mk v l ns hns hl ha hk ih =>
    intro w L hkw hPL s av pl hI hrow hB1 hsz hF
    have hNs : Ns w P v ns := (Ns.mk v l ns hns hl ha hk).keeps hkw hPL
    obtain ⟨R, hR⟩ : ∃ R, walkL f ns ns 0 (pl.map Pn.nd) s = R := ⟨_, rfl⟩
    rw [hR]
    have hlw := hl.keeps hkw hPL
    obtain ⟨o, c, rfl, h1, h2⟩ := hlw.lies.form
    obtain ⟨ao, ac, hav⟩ := row_form hrow
    subst hav
    unfold maxLen at h2
    have hll : l.length = ns.length := by rw [← hns, List.length_map]
    have hE := V.enters
    unfold Enters at hE
    obtain ⟨i0, hi, hz0, hz1, hz2⟩ := info_parts info79
    have hpl : pl.length ≤ 2000000 := by omega
    have HNs := hide hNs
    have HL := hide hlw
    have HI := hide ih
    have HKW := hide hkw
    have HR := hide hR
    have Hns := hide hns
    have Hll := hide hll
    have Hsz := hide hsz
    have HF := hide hF
    have HA := hide ha
    have HPL := hide hPL
    have HKD := hide hk
    clear hNs hlw ih hkw hR hns hll hsz hl ha hk hPL hF
    go_enter Tryz.func171, Tryz.ntmps171
    go_wp2_with fail
    go_loopw [11] (fun i wr => ∃ (k : Nat) (s' : σ), k ≤ l.length ∧ i = .int .i64 k ∧ Hid (I s' wr) ∧ Hid (wr.ownsRow B1 45 4 (.slice ao pl.length ac) pl.length (pnsCells pl)) ∧ Hid (Keeps (chgW S (.slice ao pl.length ac)) w wr) ∧ Hid (walkL f ns (ns.drop k) k (pl.map Pn.nd) s' = R)) (fun i _ => l.length - (intOf i).toNat)
    case atStart => exact ⟨0, s, Nat.zero_le _, rfl, hI, hrow, Keeps.refl _ _, HR⟩
    case round =>
      obtain ⟨k, s', hk, rfl, hI', hrow', hkr, hW⟩ := hrel
      clear HR hI hrow
      have hPc : ∀ g, P g → g ∉ chgW S (.slice ao pl.length ac) := fun g hg hm => by
        rcases List.mem_append.1 hm with hm | hm
        · exact (V.part g hg).2 hm
        · have := (hrow'.out.lt g (by simpa using hm)).1
          have := (V.part g hg).1
          omega
      by_cases hlt : k < l.length
      · obtain ⟨g, x, hoo, hcl⟩ := (HL.out.keeps hkr.out hPc).lies.addr (by omega)
        subst hoo
        obtain ⟨a0, a1, a2, a3⟩ := lies_pn hcl k hlt
        have hkn : k < ns.length := by rw [← Hll.out]; exact hlt
        have hpn : l[k].nd = ns[k] := by
          have h9 : (l.map Pn.nd)[k]? = ns[k]? := by rw [Hns.out]
          simpa [List.getElem?_eq_getElem hlt, List.getElem?_eq_getElem hkn] using h9
        have hW1 := hW.out
        rw [List.drop_eq_getElem_cons hkn, walkL_cons, ← hpn] at hW1
        have hpk := HI.out l[k] (List.getElem_mem hlt)
        have hak := (((HA.out l[k] (List.getElem_mem hlt)).keeps HKW.out HPL.out).keeps hkr.out hPc)
        have hszk : sizeNs l[k].nd.kids < sizeNs ns := sizeNs_mem (by rw [hpn]; exact List.getElem_mem hkn)
        have hFk := V.down ns HF.out l[k].nd (by rw [hpn]; exact List.getElem_mem hkn)
        have hkf := (HKD.out l[k] (List.getElem_mem hlt)).form
        clear hcl hW
        generalize l[k] = p at *
        obtain ⟨nd, pav, pkv⟩ := p
        simp only at a0 a1 a2 a3 hpn hW1 hpk hak hszk hkf hFk
        clear hpn
        obtain ⟨qo, qc, hq⟩ := hak.form
        subst hq
        obtain ⟨ko, kc, hkv⟩ := hkf
        subst hkv
        obtain ⟨Wb, hWb⟩ : ∃ Wb, wr.alloc (.cells #[.string ⟨nd.name.toArray⟩, .slice qo nd.attrs.length qc, .string ⟨nd.text.toArray⟩, .slice ko nd.kids.length kc] 45) = Wb := ⟨_, rfl⟩
        have hka : Keeps [] wr Wb := by rw [← hWb]; exact (Keeps.refl [] wr).alloc _
        have hbx : Wb.heap[wr.heap.size]? = some (.cells #[.string ⟨nd.name.toArray⟩, .slice qo nd.attrs.length qc, .string ⟨nd.text.toArray⟩, .slice ko nd.kids.length kc] 45 (0, 0)) := by rw [← hWb]; exact heap_alloc_new wr _
        have hBr : B1 ≤ wr.heap.size := Nat.le_trans hB1 hkr.out.size
        have hbl : wr.heap.size < Wb.heap.size := lt_of_block hbx
        have hvis := hide (fun (W' : World) (hkk : Keeps [] Wb W') => V.call s' W' (.slice (some ⟨g, x, none⟩) l.length c) ns k (.slice ao pl.length ac) pl (V.stable s' wr W' [] (by simp) hI'.out (hka.trans hkk)) ((HNs.out.keeps hkr.out hPc).keeps0 (hka.trans hkk)) HF.out hkn ((hka.trans hkk).owns hrow'.out (fun _ _ => List.not_mem_nil)) hpl (Nat.le_trans hBr (hka.trans hkk).size))
        have hSl := V.low
        have hst := V.stable
        have hrb : ∀ g, (Value.slice ao pl.length ac).ownBlock = some g → g < wr.heap.size := fun g hg => (hrow'.out.lt g hg).2
        have hend := hide (fun (Wx : World) (hkx : Keeps [] wr Wx) {W2 : World} (hS2 : Keeps S Wx W2) => (⟨hS2.owns (hkx.owns hrow'.out (fun _ _ => List.not_mem_nil)) (fun g hg hm => by have := hSl g hm; have := (hrow'.out.lt g hg).1; omega), keeps_within (keeps_within hkr.out hkx (by simp)) hS2 (fun g hg _ => List.mem_append_left _ hg)⟩ : W2.ownsRow B1 45 4 (.slice ao pl.length ac) pl.length (pnsCells pl) ∧ Keeps (chgW S (.slice ao pl.length ac)) w W2))
        cases hb : (f s' ns k (pl.map Pn.nd)).2
        · rw [hb] at hvis hW1
          rw [if_neg (by simp)] at hW1
          have hRe : R = ((f s' ns k (pl.map Pn.nd)).1, false) := hW1.symm
          obtain ⟨s2, hs2⟩ : ∃ s2, (f s' ns k (pl.map Pn.nd)).1 = s2 := ⟨_, rfl⟩
          rw [hs2] at hvis hRe
          have HRe := hide hRe
          clear hW1 hb hpk hs2 hRe
          go_upto_region 4 with fail
          refine wp_region_any (by kernel_rfl) ?_
          change wpAny _ _ _ _ _ _ _ (World.drew _)
          refine wpAny_take (i := 0) (v := .func (.func K) #[] caps) rfl (by kernel_rfl) (by kernel_rfl) (by kernel_rfl) (fun _ _ _ h => h) (Or.inl ⟨by rfl, by intro w; go_simp⟩) ?_
          refine wpAny_take (i := 1) (v := .slice (some ⟨g, x, none⟩) l.length c) rfl (by kernel_rfl) (by kernel_rfl) (by kernel_rfl) (fun _ _ _ h => h) (Or.inl ⟨by rfl, by intro w; go_simp⟩) ?_
          refine wpAny_take (i := 2) (v := .int .i64 k) rfl (by kernel_rfl) (by kernel_rfl) (by kernel_rfl) (fun _ _ _ h => h) (Or.inl ⟨by rfl, by intro w; go_simp⟩) ?_
          refine wpAny_take (i := 3) (v := .slice ao pl.length ac) rfl (by kernel_rfl) (by kernel_rfl) (by kernel_rfl) (fun _ _ _ h => h) (Or.inl ⟨by rfl, by intro w; go_simp⟩) ?_
          refine wpAny_ready (rs := [4]) (by kernel_rfl) (by simp) ?_
          refine AllReady.cons rfl (fun K9 hK9 => ?_) AllReady.nil
          refine step_callv (by simp [Region.wanted]) (.tmp 16) _ _ rfl K caps rfl V.enters #[.slice (some ⟨g, x, none⟩) l.length c, .int .i64 k, .slice ao pl.length ac] (by first | (simp [Act.eval]; done) | (simp [Act.eval, Act.put]; done)) (hvis.out _ ((Keeps.refl [] _).drew)) ?_
          rintro e w2 ⟨rfl, hI2, hS2⟩
          refine ⟨_, rfl, ?_⟩
          refine hK9 _ _ ?_
          clear hK9 K9
          refine wpAny_take (i := 5) (v := .bool true) rfl (by kernel_rfl) (by kernel_rfl) (by kernel_rfl) (fun _ _ _ h => h) (Or.inl ⟨by rfl, by intro w; go_simp⟩) ?_
          refine wpAny_take (i := 6) (v := .bool true) rfl (by kernel_rfl) (by kernel_rfl) (by kernel_rfl) (fun _ _ _ h => h) (Or.inl ⟨by rfl, by intro w; go_simp⟩) ?_
          --MARK1
          refine wpAny_take (i := 7) (v := undef) rfl (by kernel_rfl) (by kernel_rfl) (by kernel_rfl) (fun _ _ _ h => h) (Or.inr ⟨wanted_no rfl rfl rfl ((put_same (by simp only [put_size]; exact of_decide_eq_true rfl))) (by decide), rfl⟩) ?_
          --MARK2
          refine wpAny_take (i := 8) (v := undef) rfl (by kernel_rfl) (by kernel_rfl) (by kernel_rfl) (fun _ _ _ h => h) (Or.inr ⟨wanted_no rfl rfl rfl (put_get ((put_same (by simp only [put_size]; exact of_decide_eq_true rfl))) (by decide)) (by decide), rfl⟩) ?_
          refine wpAny_take (i := 9) (v := undef) rfl (by kernel_rfl) (by kernel_rfl) (by kernel_rfl) (fun _ _ _ h => h) (Or.inr ⟨wanted_no rfl rfl rfl (put_get (put_get ((put_same (by simp only [put_size]; exact of_decide_eq_true rfl))) (by decide)) (by decide)) (by decide), rfl⟩) ?_
          refine wpAny_take (i := 10) (v := undef) rfl (by kernel_rfl) (by kernel_rfl) (by kernel_rfl) (fun _ _ _ h => h) (Or.inr ⟨wanted_no rfl rfl rfl (put_get (put_get (put_get ((put_same (by simp only [put_size]; exact of_decide_eq_true rfl))) (by decide)) (by decide)) (by decide)) (by decide), rfl⟩) ?_
          refine wpAny_take (i := 11) (v := undef) rfl (by kernel_rfl) (by kernel_rfl) (by kernel_rfl) (fun _ _ _ h => h) (Or.inr ⟨wanted_no rfl rfl rfl (put_get (put_get (put_get (put_get ((put_same (by simp only [put_size]; exact of_decide_eq_true rfl))) (by decide)) (by decide)) (by decide)) (by decide)) (by decide), rfl⟩) ?_
          refine wpAny_take (i := 12) (v := undef) rfl (by kernel_rfl) (by kernel_rfl) (by kernel_rfl) (fun _ _ _ h => h) (Or.inr ⟨wanted_no rfl rfl rfl (put_get (put_get (put_get (put_get (put_get ((put_same (by simp only [put_size]; exact of_decide_eq_true rfl))) (by decide)) (by decide)) (by decide)) (by decide)) (by decide)) (by decide), rfl⟩) ?_
          refine wpAny_take (i := 13) (v := undef) rfl (by kernel_rfl) (by kernel_rfl) (by kernel_rfl) (fun _ _ _ h => h) (Or.inr ⟨wanted_no rfl rfl rfl (put_get (put_get (put_get (put_get (put_get (put_get ((put_same (by simp only [put_size]; exact of_decide_eq_true rfl))) (by decide)) (by decide)) (by decide)) (by decide)) (by decide)) (by decide)) (by decide), rfl⟩) ?_
          refine wpAny_take (i := 14) (v := undef) rfl (by kernel_rfl) (by kernel_rfl) (by kernel_rfl) (fun _ _ _ h => h) (Or.inr ⟨wanted_no rfl rfl rfl (put_get (put_get (put_get (put_get (put_get (put_get (put_get ((put_same (by simp only [put_size]; exact of_decide_eq_true rfl))) (by decide)) (by decide)) (by decide)) (by decide)) (by decide)) (by decide)) (by decide)) (by decide), rfl⟩) ?_
          refine wpAny_take (i := 15) (v := undef) rfl (by kernel_rfl) (by kernel_rfl) (by kernel_rfl) (fun _ _ _ h => h) (Or.inr ⟨wanted_no rfl rfl rfl (put_get (put_get (put_get (put_get (put_get (put_get (put_get (put_get ((put_same (by simp only [put_size]; exact of_decide_eq_true rfl))) (by decide)) (by decide)) (by decide)) (by decide)) (by decide)) (by decide)) (by decide)) (by decide)) (by decide), rfl⟩) ?_
          --MARK3
          refine wpAny_take (i := 16) (v := .bool true) rfl (by kernel_rfl) (by kernel_rfl) (by kernel_rfl) (fun _ _ _ h => h) (Or.inl ⟨by rfl, by intro w; go_simp⟩) ?_
          --MARK4
          refine wpAny_done (by kernel_rfl) ?_ _
          simp only [List.getElem_toArray, List.getElem_cons_zero, List.getElem_cons_succ, Act.put, List.setIfInBounds_toArray, List.set]
          --MARK5
          go_wp2_with fail
          go_ret
          rw [HRe.out]
          exact ⟨rfl, hI2, hend.out _ (hka.trans ((Keeps.refl [] _).drew)) hS2⟩
        · rw [hb] at hvis hW1
          rw [if_pos rfl] at hW1
          obtain ⟨s2, hs2⟩ : ∃ s2, (f s' ns k (pl.map Pn.nd)).1 = s2 := ⟨_, rfl⟩
          rw [hs2] at hvis hW1
          have hin := hide (fun (W' : World) (L' : List Nat) (hkk : Keeps L' w0 W') (hPL' : ∀ g, P g → g ∉ L') (av' : Value) (hI9 : I s2 W') (hrow9 : W'.ownsRow B1 45 4 av' (pl ++ [(⟨nd, .slice qo nd.attrs.length qc, .slice ko nd.kids.length kc⟩ : Pn)]).length (pnsCells (pl ++ [(⟨nd, .slice qo nd.attrs.length qc, .slice ko nd.kids.length kc⟩ : Pn)]))) (hB9 : B1 ≤ W'.heap.size) => hpk W' L' hkk hPL' s2 av' (pl ++ [(⟨nd, .slice qo nd.attrs.length qc, .slice ko nd.kids.length kc⟩ : Pn)]) hI9 hrow9 hB9 (by have := Hsz.out; simp; omega) hFk)
          simp only [List.map_append, List.map_cons, List.map_nil, List.length_append, List.length_singleton] at hin
          obtain ⟨R2, hR2⟩ : ∃ R2, walkL f nd.kids nd.kids 0 (pl.map Pn.nd ++ [nd]) s2 = R2 := ⟨_, rfl⟩
          rw [hR2] at hW1 hin
          have HW := hide hW1
          clear hW1 hb hpk hs2 hR2
          have e0 : pnsCells (pl ++ [(⟨nd, .slice qo nd.attrs.length qc, .slice ko nd.kids.length kc⟩ : Pn)]) = pnsCells pl ++ pnCells ⟨nd, .slice qo nd.attrs.length qc, .slice ko nd.kids.length kc⟩ := by simp [pnsCells]
          rw [e0] at hin
          have E0 := hide e0
          clear e0
          go_upto_region 4 with fail
          refine wp_region_any (by kernel_rfl) ?_
          change wpAny _ _ _ _ _ _ _ (World.drew _)
          refine wpAny_take (i := 0) (v := .func (.func K) #[] caps) rfl (by kernel_rfl) (by kernel_rfl) (by kernel_rfl) (fun _ _ _ h => h) (Or.inl ⟨by rfl, by intro w; go_simp⟩) ?_
          simp only [List.getElem_toArray, List.getElem_cons_zero, Act.put, List.setIfInBounds_toArray, List.set]
          refine wpAny_take (i := 1) (v := .slice (some ⟨g, x, none⟩) l.length c) rfl (by kernel_rfl) (by kernel_rfl) (by kernel_rfl) (fun _ _ _ h => h) (Or.inl ⟨by rfl, by intro w; go_simp⟩) ?_
          simp only [List.getElem_toArray, List.getElem_cons_zero, List.getElem_cons_succ, Act.put, List.setIfInBounds_toArray, List.set]
          refine wpAny_take (i := 2) (v := .int .i64 k) rfl (by kernel_rfl) (by kernel_rfl) (by kernel_rfl) (fun _ _ _ h => h) (Or.inl ⟨by rfl, by intro w; go_simp⟩) ?_
          simp only [List.getElem_toArray, List.getElem_cons_zero, List.getElem_cons_succ, Act.put, List.setIfInBounds_toArray, List.set]
          refine wpAny_take (i := 3) (v := .slice ao pl.length ac) rfl (by kernel_rfl) (by kernel_rfl) (by kernel_rfl) (fun _ _ _ h => h) (Or.inl ⟨by rfl, by intro w; go_simp⟩) ?_
          simp only [List.getElem_toArray, List.getElem_cons_zero, List.getElem_cons_succ, Act.put, List.setIfInBounds_toArray, List.set]
          refine wpAny_ready (rs := [4]) (by kernel_rfl) (by simp) ?_
          refine AllReady.cons rfl (fun K9 hK9 => ?_) AllReady.nil
          refine step_callv (by simp [Region.wanted]) (.tmp 16) _ _ rfl K caps rfl V.enters #[.slice (some ⟨g, x, none⟩) l.length c, .int .i64 k, .slice ao pl.length ac] (by first | (simp [Act.eval]; done) | (simp [Act.eval, Act.put]; done)) (hvis.out _ ((Keeps.refl [] _).drew)) ?_
          rintro e w2 ⟨rfl, hI2, hS2⟩
          refine ⟨_, rfl, ?_⟩
          refine hK9 _ _ ?_
          clear hK9 K9
          simp only [List.getElem_toArray, List.getElem_cons_zero, List.getElem_cons_succ, Act.put, List.setIfInBounds_toArray, List.set]
          have hbS : wr.heap.size ∉ S := fun hm => by have := hSl _ hm; omega
          have hbx2 : w2.heap[wr.heap.size]? = some (.cells #[.string ⟨nd.name.toArray⟩, .slice qo nd.attrs.length qc, .string ⟨nd.text.toArray⟩, .slice ko nd.kids.length kc] 45 (0, 0)) := (hS2.block _ hbl hbS).trans hbx
          have hrow2 := (hend.out _ (hka.trans ((Keeps.refl [] _).drew)) hS2).1
          have hkp2 := (hend.out _ (hka.trans ((Keeps.refl [] _).drew)) hS2).2
          have k0 : w2.cell? ⟨wr.heap.size, 0, none⟩ = some (.string ⟨nd.name.toArray⟩) := cell_blk hbx2 0
          have k1 : w2.cell? ⟨wr.heap.size, 1, none⟩ = some (.slice qo nd.attrs.length qc) := cell_blk hbx2 1
          have k2 : w2.cell? ⟨wr.heap.size, 2, none⟩ = some (.string ⟨nd.text.toArray⟩) := cell_blk hbx2 2
          have k3 : w2.cell? ⟨wr.heap.size, 3, none⟩ = some (.slice ko nd.kids.length kc) := cell_blk hbx2 3
          have hbl2 : wr.heap.size < w2.heap.size := lt_of_block hbx2
          have k3a : ∀ o', (w2.alloc o').cell? ⟨wr.heap.size, 3, none⟩ = some (.slice ko nd.kids.length kc) := fun o' => (cell_past (a := ⟨wr.heap.size, 3, none⟩) hbl2 o').trans k3
          have hB2 : B1 ≤ w2.heap.size := by omega
          refine wpAny_take (i := 5) (v := .bool false) rfl (by kernel_rfl) (by kernel_rfl) (by kernel_rfl) (fun _ _ _ h => h) (Or.inl ⟨by rfl, by intro w; go_simp⟩) ?_
          simp only [List.getElem_toArray, List.getElem_cons_zero, List.getElem_cons_succ, Act.put, List.setIfInBounds_toArray, List.set]
          refine wpAny_take (i := 6) (v := .bool false) rfl (by kernel_rfl) (by kernel_rfl) (by kernel_rfl) (fun _ _ _ h => h) (Or.inl ⟨by rfl, by intro w; go_simp⟩) ?_
          simp only [List.getElem_toArray, List.getElem_cons_zero, List.getElem_cons_succ, Act.put, List.setIfInBounds_toArray, List.set]
          refine wpAny_take (i := 7) (v := .pointer (some ⟨wr.heap.size, 3, none⟩)) rfl (by kernel_rfl) (by kernel_rfl) (by kernel_rfl) (fun _ _ _ h => h) (Or.inl ⟨wanted_yes rfl rfl rfl rfl, by intro w; go_simp⟩) ?_
          simp only [List.getElem_toArray, List.getElem_cons_zero, List.getElem_cons_succ, Act.put, List.setIfInBounds_toArray, List.set]
          refine wpAny_take (i := 9) (v := .slice ao pl.length ac) rfl (by kernel_rfl) (by kernel_rfl) (by kernel_rfl) (fun _ _ _ h => h) (Or.inl ⟨wanted_yes rfl rfl rfl rfl, by intro w; go_simp⟩) ?_
          simp only [List.getElem_toArray, List.getElem_cons_zero, List.getElem_cons_succ, Act.put, List.setIfInBounds_toArray, List.set]
          refine wpAny_take (i := 13) (v := .func (.func K) #[] caps) rfl (by kernel_rfl) (by kernel_rfl) (by kernel_rfl) (fun _ _ _ h => h) (Or.inl ⟨wanted_yes rfl rfl rfl rfl, by intro w; go_simp⟩) ?_
          simp only [List.getElem_toArray, List.getElem_cons_zero, List.getElem_cons_succ, Act.put, List.setIfInBounds_toArray, List.set]
          --MARK7
          have hdeep : Hid (∀ (w4 : World) (o4 : Option Addr) (c4 : Nat), w4.ownsRow B1 45 4 (.slice o4 (pl.length + 1) c4) (pl.length + 1) (pnsCells pl ++ pnCells (⟨nd, .slice qo nd.attrs.length qc, .slice ko nd.kids.length kc⟩ : Pn)) → (w2.alloc (.cells #[.string ⟨nd.name.toArray⟩, .slice qo nd.attrs.length qc, .string ⟨nd.text.toArray⟩, .slice ko nd.kids.length kc] 45)).grownBy w4 (Value.slice ao pl.length ac).ownBlock → ((∃ g cap, Value.slice ao pl.length ac = .slice (some ⟨g, 0, none⟩) pl.length cap ∧ Value.slice o4 (pl.length + 1) c4 = .slice (some ⟨g, 0, none⟩) (pl.length + 1) cap) ∨ ((Value.slice o4 (pl.length + 1) c4).ownBlock = some (w2.alloc (.cells #[.string ⟨nd.name.toArray⟩, .slice qo nd.attrs.length qc, .string ⟨nd.text.toArray⟩, .slice ko nd.kids.length kc] 45)).heap.size ∧ Keeps [] (w2.alloc (.cells #[.string ⟨nd.name.toArray⟩, .slice qo nd.attrs.length qc, .string ⟨nd.text.toArray⟩, .slice ko nd.kids.length kc] 45)) w4)) → Calls Tryz.prog 171 (#[.slice ko nd.kids.length kc, .slice o4 (pl.length + 1) c4, .func (.func K) #[] caps] ++ #[]) w4 fun e w5 => e = .returned (.bool R2.2) ∧ I R2.1 w5 ∧ w5.ownsRow B1 45 4 (.slice ao pl.length ac) pl.length (pnsCells pl) ∧ Keeps (chgW S (.slice ao pl.length ac)) w w5) := by
            intro w4 o4 c4 ho4 hg4 hc4
            have hk4 : Keeps (Value.slice ao pl.length ac).ownBlock.toList w2 w4 := ((Keeps.refl _ w2).alloc _).grown hg4 (fun i e => .inl (by simp [e]))
            have hk24 : Keeps (chgW S (.slice ao pl.length ac)) w w4 := hkp2.trans (hk4.to (fun g hg => List.mem_append_right _ hg))
            refine (hin.out w4 (L ++ chgW S (.slice ao pl.length ac)) ((HKW.out.to (fun g hg => List.mem_append_left _ hg)).trans (hk24.to (fun g hg => List.mem_append_right _ hg))) (fun g hg hm => (List.mem_append.1 hm).elim (HPL.out g hg) (hPc g hg)) (.slice o4 (pl.length + 1) c4) (hst s2 w2 w4 _ (fun g hg => (hrow2.lt g (by simpa using hg)).1) hI2 hk4) ho4 (Nat.le_trans hB2 hk4.size)).mono ?_
            rintro e w5 ⟨rfl, hI5, hrow5, hk5⟩
            rcases hc4 with ⟨g4, cap4, e1, e2⟩ | ⟨e1, hk34⟩
            · rw [e1]
              rw [e2] at hrow5 hk5
              rw [e1] at hk24
              refine ⟨rfl, hI5, row_shrink (pnsCells_len pl) hrow5, keeps_within hk24 hk5 (fun g hg _ => ?_)⟩
              exact hg
            · have hr4 := hk34.owns (hrow2.alloc (.cells #[.string ⟨nd.name.toArray⟩, .slice qo nd.attrs.length qc, .string ⟨nd.text.toArray⟩, .slice ko nd.kids.length kc] 45)) (fun _ _ => List.not_mem_nil)
              have hsz9 : (w2.alloc (.cells #[.string ⟨nd.name.toArray⟩, .slice qo nd.attrs.length qc, .string ⟨nd.text.toArray⟩, .slice ko nd.kids.length kc] 45)).heap.size = w2.heap.size + 1 := by simp
              rw [hsz9] at e1
              refine ⟨rfl, hI5, hk5.owns hr4 (fun g hg hm => ?_), keeps_within hk24 hk5 (fun g hg hlt => ?_)⟩
              · rcases List.mem_append.1 hm with hm | hm
                · have := hSl g hm
                  have := (hrow2.lt g hg).1
                  omega
                · rw [e1] at hm
                  simp at hm
                  have := (hrow2.lt g hg).2
                  omega
              · rcases List.mem_append.1 hg with hg | hg
                · exact List.mem_append_left _ hg
                · rw [e1] at hg
                  simp at hg
                  have := hkp2.size
                  omega
          refine wpAny_ready (rs := [8, 10]) (by kernel_rfl) (by simp) ?_
          refine AllReady.cons rfl (fun K9 hK9 => ?_) (AllReady.cons rfl (fun K9 hK9 => ?_) AllReady.nil)
          · refine step_run (v := .slice ko nd.kids.length kc) (w' := w2) (wanted_yes rfl rfl rfl rfl) (by go_simp) ?_
            refine hK9 _ _ ?_
            clear hK9 K9
            simp only [List.getElem_toArray, List.getElem_cons_zero, List.getElem_cons_succ, Act.put, List.setIfInBounds_toArray, List.set]
            refine wpAny_ready (rs := [10]) (by kernel_rfl) (by simp) ?_
            refine AllReady.cons rfl (fun K9 hK9 => ?_) AllReady.nil
            · refine step_run (v := .agg #[.string ⟨nd.name.toArray⟩, .slice qo nd.attrs.length qc, .string ⟨nd.text.toArray⟩, .slice ko nd.kids.length kc]) (w' := w2) (wanted_yes rfl rfl rfl rfl) (by go_simp) ?_
              refine hK9 _ _ ?_
              clear hK9 K9
              simp only [List.getElem_toArray, List.getElem_cons_zero, List.getElem_cons_succ, Act.put, List.setIfInBounds_toArray, List.set]
              refine wpAny_ready (rs := [11]) (by kernel_rfl) (by simp) ?_
              refine AllReady.cons rfl (fun K9 hK9 => ?_) AllReady.nil
              · refine step_run (v := .slice (some ⟨w2.heap.size, 0, none⟩) 1 1) (w' := w2.alloc (.cells #[.string ⟨nd.name.toArray⟩, .slice qo nd.attrs.length qc, .string ⟨nd.text.toArray⟩, .slice ko nd.kids.length kc] 45)) (wanted_yes rfl rfl rfl rfl) (by go_simp) ?_
                refine hK9 _ _ ?_
                clear hK9 K9
                simp only [List.getElem_toArray, List.getElem_cons_zero, List.getElem_cons_succ, Act.put, List.setIfInBounds_toArray, List.set]
                refine wpAny_ready (rs := [12]) (by kernel_rfl) (by simp) ?_
                refine AllReady.cons rfl (fun K9 hK9 => ?_) AllReady.nil
                · refine step_keep (wanted_yes rfl rfl rfl rfl) _ _ 29 rfl B1 45 i0 _ 4 80 Tryz.underlying29 hi hz0 hz1 hz2 (by kernel_rfl) (by decide) (.slice ao pl.length ac) pl.length (pnsCells pl) rfl (hrow2.alloc _) ⟨w2.heap.size, 0, none⟩ 1 (pnCells (⟨nd, .slice qo nd.attrs.length qc, .slice ko nd.kids.length kc⟩ : Pn)) rfl rfl (lit_cells w2 _ 45) pn_one (by unfold maxLen; omega) (by omega) (Nat.le_trans hB2 (by simp)) ?_
                  intro v4 w4 ho4 hg4 hc4
                  obtain ⟨o4, c4, hv4⟩ := row_form ho4
                  subst hv4
                  have hk4 : Keeps (Value.slice ao pl.length ac).ownBlock.toList w2 w4 := ((Keeps.refl _ w2).alloc _).grown hg4 (fun i e => .inl (by simp [e]))
                  have k3b := cell_keepsS hk4 (a := ⟨wr.heap.size, 3, none⟩) (fun hm => by have := hrb _ (by simpa using hm); simp at this) k3
                  refine hK9 _ _ ?_
                  clear hK9 K9
                  simp only [List.getElem_toArray, List.getElem_cons_zero, List.getElem_cons_succ, Act.put, List.setIfInBounds_toArray, List.set]
                  refine wpAny_ready (rs := [14]) (by kernel_rfl) (by simp) ?_
                  refine AllReady.cons rfl (fun K9 hK9 => ?_) AllReady.nil
                  · refine step_callv (wanted_yes rfl rfl rfl rfl) (.func 171) _ _ rfl 171 #[] rfl enters171 #[.slice ko nd.kids.length kc, .slice o4 (pl.length + 1) c4, .func (.func K) #[] caps] (by simp [Act.eval]) (hdeep.out w4 _ _ ho4 hg4 hc4) ?_
                    rintro e w5 ⟨rfl, hI5, hrow5, hk5⟩
                    refine ⟨_, rfl, ?_⟩
                    refine hK9 _ _ ?_
                    clear hK9 K9
                    simp only [List.getElem_toArray, List.getElem_cons_zero, List.getElem_cons_succ, Act.put, List.setIfInBounds_toArray, List.set]
                    cases hb2 : R2.2
                    · refine wpAny_take (i := 15) (v := .bool true) rfl (by kernel_rfl) (by kernel_rfl) (by kernel_rfl) (fun _ _ _ h => h) (Or.inl ⟨wanted_yes rfl rfl rfl rfl, by intro w; go_simp⟩) ?_
                      simp only [List.getElem_toArray, List.getElem_cons_zero, List.getElem_cons_succ, Act.put, List.setIfInBounds_toArray, List.set]
                      refine wpAny_take (i := 16) (v := .bool true) rfl (by kernel_rfl) (by kernel_rfl) (by kernel_rfl) (fun _ _ _ h => h) (Or.inl ⟨by rfl, by intro w; go_simp⟩) ?_
                      simp only [List.getElem_toArray, List.getElem_cons_zero, List.getElem_cons_succ, Act.put, List.setIfInBounds_toArray, List.set]
                      refine wpAny_done (by kernel_rfl) ?_ _
                      go_wp2_with fail
                      go_ret
                      have h9 := HW.out
                      rw [if_neg (by rw [hb2]; simp)] at h9
                      rw [← h9]
                      exact ⟨rfl, hI5, hrow5, hk5⟩
                    · refine wpAny_take (i := 15) (v := .bool false) rfl (by kernel_rfl) (by kernel_rfl) (by kernel_rfl) (fun _ _ _ h => h) (Or.inl ⟨wanted_yes rfl rfl rfl rfl, by intro w; go_simp⟩) ?_
                      simp only [List.getElem_toArray, List.getElem_cons_zero, List.getElem_cons_succ, Act.put, List.setIfInBounds_toArray, List.set]
                      refine wpAny_take (i := 16) (v := .bool false) rfl (by kernel_rfl) (by kernel_rfl) (by kernel_rfl) (fun _ _ _ h => h) (Or.inl ⟨by rfl, by intro w; go_simp⟩) ?_
                      simp only [List.getElem_toArray, List.getElem_cons_zero, List.getElem_cons_succ, Act.put, List.setIfInBounds_toArray, List.set]
                      refine wpAny_done (by kernel_rfl) ?_ _
                      go_wp2_with fail
                      go_roundw
                      case rel => exact ⟨k + 1, R2.1, by omega, by go_num, hI5, hrow5, hk5, by have h9 := HW.out; rw [if_pos hb2] at h9; exact h9⟩
                      case measure => simp [intOf]; omega
          · refine step_run (v := .agg #[.string ⟨nd.name.toArray⟩, .slice qo nd.attrs.length qc, .string ⟨nd.text.toArray⟩, .slice ko nd.kids.length kc]) (w' := w2) (wanted_yes rfl rfl rfl rfl) (by go_simp) ?_
            refine hK9 _ _ ?_
            clear hK9 K9
            simp only [List.getElem_toArray, List.getElem_cons_zero, List.getElem_cons_succ, Act.put, List.setIfInBounds_toArray, List.set]
            refine wpAny_ready (rs := [8, 11]) (by kernel_rfl) (by simp) ?_
            refine AllReady.cons rfl (fun K9 hK9 => ?_) (AllReady.cons rfl (fun K9 hK9 => ?_) AllReady.nil)
            · refine step_run (v := .slice ko nd.kids.length kc) (w' := w2) (wanted_yes rfl rfl rfl rfl) (by go_simp) ?_
              refine hK9 _ _ ?_
              clear hK9 K9
              simp only [List.getElem_toArray, List.getElem_cons_zero, List.getElem_cons_succ, Act.put, List.setIfInBounds_toArray, List.set]
              refine wpAny_ready (rs := [11]) (by kernel_rfl) (by simp) ?_
              refine AllReady.cons rfl (fun K9 hK9 => ?_) AllReady.nil
              · refine step_run (v := .slice (some ⟨w2.heap.size, 0, none⟩) 1 1) (w' := w2.alloc (.cells #[.string ⟨nd.name.toArray⟩, .slice qo nd.attrs.length qc, .string ⟨nd.text.toArray⟩, .slice ko nd.kids.length kc] 45)) (wanted_yes rfl rfl rfl rfl) (by go_simp) ?_
                refine hK9 _ _ ?_
                clear hK9 K9
                simp only [List.getElem_toArray, List.getElem_cons_zero, List.getElem_cons_succ, Act.put, List.setIfInBounds_toArray, List.set]
                refine wpAny_ready (rs := [12]) (by kernel_rfl) (by simp) ?_
                refine AllReady.cons rfl (fun K9 hK9 => ?_) AllReady.nil
                · refine step_keep (wanted_yes rfl rfl rfl rfl) _ _ 29 rfl B1 45 i0 _ 4 80 Tryz.underlying29 hi hz0 hz1 hz2 (by kernel_rfl) (by decide) (.slice ao pl.length ac) pl.length (pnsCells pl) rfl (hrow2.alloc _) ⟨w2.heap.size, 0, none⟩ 1 (pnCells (⟨nd, .slice qo nd.attrs.length qc, .slice ko nd.kids.length kc⟩ : Pn)) rfl rfl (lit_cells w2 _ 45) pn_one (by unfold maxLen; omega) (by omega) (Nat.le_trans hB2 (by simp)) ?_
                  intro v4 w4 ho4 hg4 hc4
                  obtain ⟨o4, c4, hv4⟩ := row_form ho4
                  subst hv4
                  have hk4 : Keeps (Value.slice ao pl.length ac).ownBlock.toList w2 w4 := ((Keeps.refl _ w2).alloc _).grown hg4 (fun i e => .inl (by simp [e]))
                  have k3b := cell_keepsS hk4 (a := ⟨wr.heap.size, 3, none⟩) (fun hm => by have := hrb _ (by simpa using hm); simp at this) k3
                  refine hK9 _ _ ?_
                  clear hK9 K9
                  simp only [List.getElem_toArray, List.getElem_cons_zero, List.getElem_cons_succ, Act.put, List.setIfInBounds_toArray, List.set]
                  refine wpAny_ready (rs := [14]) (by kernel_rfl) (by simp) ?_
                  refine AllReady.cons rfl (fun K9 hK9 => ?_) AllReady.nil
                  · refine step_callv (wanted_yes rfl rfl rfl rfl) (.func 171) _ _ rfl 171 #[] rfl enters171 #[.slice ko nd.kids.length kc, .slice o4 (pl.length + 1) c4, .func (.func K) #[] caps] (by simp [Act.eval]) (hdeep.out w4 _ _ ho4 hg4 hc4) ?_
                    rintro e w5 ⟨rfl, hI5, hrow5, hk5⟩
                    refine ⟨_, rfl, ?_⟩
                    refine hK9 _ _ ?_
                    clear hK9 K9
                    simp only [List.getElem_toArray, List.getElem_cons_zero, List.getElem_cons_succ, Act.put, List.setIfInBounds_toArray, List.set]
                    cases hb2 : R2.2
                    · refine wpAny_take (i := 15) (v := .bool true) rfl (by kernel_rfl) (by kernel_rfl) (by kernel_rfl) (fun _ _ _ h => h) (Or.inl ⟨wanted_yes rfl rfl rfl rfl, by intro w; go_simp⟩) ?_
                      simp only [List.getElem_toArray, List.getElem_cons_zero, List.getElem_cons_succ, Act.put, List.setIfInBounds_toArray, List.set]
                      refine wpAny_take (i := 16) (v := .bool true) rfl (by kernel_rfl) (by kernel_rfl) (by kernel_rfl) (fun _ _ _ h => h) (Or.inl ⟨by rfl, by intro w; go_simp⟩) ?_
                      simp only [List.getElem_toArray, List.getElem_cons_zero, List.getElem_cons_succ, Act.put, List.setIfInBounds_toArray, List.set]
                      refine wpAny_done (by kernel_rfl) ?_ _
                      go_wp2_with fail
                      go_ret
                      have h9 := HW.out
                      rw [if_neg (by rw [hb2]; simp)] at h9
                      rw [← h9]
                      exact ⟨rfl, hI5, hrow5, hk5⟩
                    · refine wpAny_take (i := 15) (v := .bool false) rfl (by kernel_rfl) (by kernel_rfl) (by kernel_rfl) (fun _ _ _ h => h) (Or.inl ⟨wanted_yes rfl rfl rfl rfl, by intro w; go_simp⟩) ?_
                      simp only [List.getElem_toArray, List.getElem_cons_zero, List.getElem_cons_succ, Act.put, List.setIfInBounds_toArray, List.set]
                      refine wpAny_take (i := 16) (v := .bool false) rfl (by kernel_rfl) (by kernel_rfl) (by kernel_rfl) (fun _ _ _ h => h) (Or.inl ⟨by rfl, by intro w; go_simp⟩) ?_
                      simp only [List.getElem_toArray, List.getElem_cons_zero, List.getElem_cons_succ, Act.put, List.setIfInBounds_toArray, List.set]
                      refine wpAny_done (by kernel_rfl) ?_ _
                      go_wp2_with fail
                      go_roundw
                      case rel => exact ⟨k + 1, R2.1, by omega, by go_num, hI5, hrow5, hk5, by have h9 := HW.out; rw [if_pos hb2] at h9; exact h9⟩
                      case measure => simp [intOf]; omega
            · refine step_run (v := .slice (some ⟨w2.heap.size, 0, none⟩) 1 1) (w' := w2.alloc (.cells #[.string ⟨nd.name.toArray⟩, .slice qo nd.attrs.length qc, .string ⟨nd.text.toArray⟩, .slice ko nd.kids.length kc] 45)) (wanted_yes rfl rfl rfl rfl) (by go_simp) ?_
              refine hK9 _ _ ?_
              clear hK9 K9
              simp only [List.getElem_toArray, List.getElem_cons_zero, List.getElem_cons_succ, Act.put, List.setIfInBounds_toArray, List.set]
              refine wpAny_ready (rs := [8, 12]) (by kernel_rfl) (by simp) ?_
              refine AllReady.cons rfl (fun K9 hK9 => ?_) (AllReady.cons rfl (fun K9 hK9 => ?_) AllReady.nil)
              · refine step_run (v := .slice ko nd.kids.length kc) (w' := w2.alloc (.cells #[.string ⟨nd.name.toArray⟩, .slice qo nd.attrs.length qc, .string ⟨nd.text.toArray⟩, .slice ko nd.kids.length kc] 45)) (wanted_yes rfl rfl rfl rfl) (by go_simp) ?_
                refine hK9 _ _ ?_
                clear hK9 K9
                simp only [List.getElem_toArray, List.getElem_cons_zero, List.getElem_cons_succ, Act.put, List.setIfInBounds_toArray, List.set]
                refine wpAny_ready (rs := [12]) (by kernel_rfl) (by simp) ?_
                refine AllReady.cons rfl (fun K9 hK9 => ?_) AllReady.nil
                · refine step_keep (wanted_yes rfl rfl rfl rfl) _ _ 29 rfl B1 45 i0 _ 4 80 Tryz.underlying29 hi hz0 hz1 hz2 (by kernel_rfl) (by decide) (.slice ao pl.length ac) pl.length (pnsCells pl) rfl (hrow2.alloc _) ⟨w2.heap.size, 0, none⟩ 1 (pnCells (⟨nd, .slice qo nd.attrs.length qc, .slice ko nd.kids.length kc⟩ : Pn)) rfl rfl (lit_cells w2 _ 45) pn_one (by unfold maxLen; omega) (by omega) (Nat.le_trans hB2 (by simp)) ?_
                  intro v4 w4 ho4 hg4 hc4
                  obtain ⟨o4, c4, hv4⟩ := row_form ho4
                  subst hv4
                  have hk4 : Keeps (Value.slice ao pl.length ac).ownBlock.toList w2 w4 := ((Keeps.refl _ w2).alloc _).grown hg4 (fun i e => .inl (by simp [e]))
                  have k3b := cell_keepsS hk4 (a := ⟨wr.heap.size, 3, none⟩) (fun hm => by have := hrb _ (by simpa using hm); simp at this) k3
                  refine hK9 _ _ ?_
                  clear hK9 K9
                  simp only [List.getElem_toArray, List.getElem_cons_zero, List.getElem_cons_succ, Act.put, List.setIfInBounds_toArray, List.set]
                  refine wpAny_ready (rs := [14]) (by kernel_rfl) (by simp) ?_
                  refine AllReady.cons rfl (fun K9 hK9 => ?_) AllReady.nil
                  · refine step_callv (wanted_yes rfl rfl rfl rfl) (.func 171) _ _ rfl 171 #[] rfl enters171 #[.slice ko nd.kids.length kc, .slice o4 (pl.length + 1) c4, .func (.func K) #[] caps] (by simp [Act.eval]) (hdeep.out w4 _ _ ho4 hg4 hc4) ?_
                    rintro e w5 ⟨rfl, hI5, hrow5, hk5⟩
                    refine ⟨_, rfl, ?_⟩
                    refine hK9 _ _ ?_
                    clear hK9 K9
                    simp only [List.getElem_toArray, List.getElem_cons_zero, List.getElem_cons_succ, Act.put, List.setIfInBounds_toArray, List.set]
                    cases hb2 : R2.2
                    · refine wpAny_take (i := 15) (v := .bool true) rfl (by kernel_rfl) (by kernel_rfl) (by kernel_rfl) (fun _ _ _ h => h) (Or.inl ⟨wanted_yes rfl rfl rfl rfl, by intro w; go_simp⟩) ?_
                      simp only [List.getElem_toArray, List.getElem_cons_zero, List.getElem_cons_succ, Act.put, List.setIfInBounds_toArray, List.set]
                      refine wpAny_take (i := 16) (v := .bool true) rfl (by kernel_rfl) (by kernel_rfl) (by kernel_rfl) (fun _ _ _ h => h) (Or.inl ⟨by rfl, by intro w; go_simp⟩) ?_
                      simp only [List.getElem_toArray, List.getElem_cons_zero, List.getElem_cons_succ, Act.put, List.setIfInBounds_toArray, List.set]
                      refine wpAny_done (by kernel_rfl) ?_ _
                      go_wp2_with fail
                      go_ret
                      have h9 := HW.out
                      rw [if_neg (by rw [hb2]; simp)] at h9
                      rw [← h9]
                      exact ⟨rfl, hI5, hrow5, hk5⟩
                    · refine wpAny_take (i := 15) (v := .bool false) rfl (by kernel_rfl) (by kernel_rfl) (by kernel_rfl) (fun _ _ _ h => h) (Or.inl ⟨wanted_yes rfl rfl rfl rfl, by intro w; go_simp⟩) ?_
                      simp only [List.getElem_toArray, List.getElem_cons_zero, List.getElem_cons_succ, Act.put, List.setIfInBounds_toArray, List.set]
                      refine wpAny_take (i := 16) (v := .bool false) rfl (by kernel_rfl) (by kernel_rfl) (by kernel_rfl) (fun _ _ _ h => h) (Or.inl ⟨by rfl, by intro w; go_simp⟩) ?_
                      simp only [List.getElem_toArray, List.getElem_cons_zero, List.getElem_cons_succ, Act.put, List.setIfInBounds_toArray, List.set]
                      refine wpAny_done (by kernel_rfl) ?_ _
                      go_wp2_with fail
                      go_roundw
                      case rel => exact ⟨k + 1, R2.1, by omega, by go_num, hI5, hrow5, hk5, by have h9 := HW.out; rw [if_pos hb2] at h9; exact h9⟩
                      case measure => simp [intOf]; omega
              · refine step_keep (wanted_yes rfl rfl rfl rfl) _ _ 29 rfl B1 45 i0 _ 4 80 Tryz.underlying29 hi hz0 hz1 hz2 (by kernel_rfl) (by decide) (.slice ao pl.length ac) pl.length (pnsCells pl) rfl (hrow2.alloc _) ⟨w2.heap.size, 0, none⟩ 1 (pnCells (⟨nd, .slice qo nd.attrs.length qc, .slice ko nd.kids.length kc⟩ : Pn)) rfl rfl (lit_cells w2 _ 45) pn_one (by unfold maxLen; omega) (by omega) (Nat.le_trans hB2 (by simp)) ?_
                intro v4 w4 ho4 hg4 hc4
                obtain ⟨o4, c4, hv4⟩ := row_form ho4
                subst hv4
                have hk4 : Keeps (Value.slice ao pl.length ac).ownBlock.toList w2 w4 := ((Keeps.refl _ w2).alloc _).grown hg4 (fun i e => .inl (by simp [e]))
                have k3b := cell_keepsS hk4 (a := ⟨wr.heap.size, 3, none⟩) (fun hm => by have := hrb _ (by simpa using hm); simp at this) k3
                refine hK9 _ _ ?_
                clear hK9 K9
                simp only [List.getElem_toArray, List.getElem_cons_zero, List.getElem_cons_succ, Act.put, List.setIfInBounds_toArray, List.set]
                refine wpAny_ready (rs := [8]) (by kernel_rfl) (by simp) ?_
                refine AllReady.cons rfl (fun K9 hK9 => ?_) AllReady.nil
                · refine step_run (v := .slice ko nd.kids.length kc) (w' := w4) (wanted_yes rfl rfl rfl rfl) (by go_simp) ?_
                  refine hK9 _ _ ?_
                  clear hK9 K9
                  simp only [List.getElem_toArray, List.getElem_cons_zero, List.getElem_cons_succ, Act.put, List.setIfInBounds_toArray, List.set]
                  refine wpAny_ready (rs := [14]) (by kernel_rfl) (by simp) ?_
                  refine AllReady.cons rfl (fun K9 hK9 => ?_) AllReady.nil
                  · refine step_callv (wanted_yes rfl rfl rfl rfl) (.func 171) _ _ rfl 171 #[] rfl enters171 #[.slice ko nd.kids.length kc, .slice o4 (pl.length + 1) c4, .func (.func K) #[] caps] (by simp [Act.eval]) (hdeep.out w4 _ _ ho4 hg4 hc4) ?_
                    rintro e w5 ⟨rfl, hI5, hrow5, hk5⟩
                    refine ⟨_, rfl, ?_⟩
                    refine hK9 _ _ ?_
                    clear hK9 K9
                    simp only [List.getElem_toArray, List.getElem_cons_zero, List.getElem_cons_succ, Act.put, List.setIfInBounds_toArray, List.set]
                    cases hb2 : R2.2
                    · refine wpAny_take (i := 15) (v := .bool true) rfl (by kernel_rfl) (by kernel_rfl) (by kernel_rfl) (fun _ _ _ h => h) (Or.inl ⟨wanted_yes rfl rfl rfl rfl, by intro w; go_simp⟩) ?_
                      simp only [List.getElem_toArray, List.getElem_cons_zero, List.getElem_cons_succ, Act.put, List.setIfInBounds_toArray, List.set]
                      refine wpAny_take (i := 16) (v := .bool true) rfl (by kernel_rfl) (by kernel_rfl) (by kernel_rfl) (fun _ _ _ h => h) (Or.inl ⟨by rfl, by intro w; go_simp⟩) ?_
                      simp only [List.getElem_toArray, List.getElem_cons_zero, List.getElem_cons_succ, Act.put, List.setIfInBounds_toArray, List.set]
                      refine wpAny_done (by kernel_rfl) ?_ _
                      go_wp2_with fail
                      go_ret
                      have h9 := HW.out
                      rw [if_neg (by rw [hb2]; simp)] at h9
                      rw [← h9]
                      exact ⟨rfl, hI5, hrow5, hk5⟩
                    · refine wpAny_take (i := 15) (v := .bool false) rfl (by kernel_rfl) (by kernel_rfl) (by kernel_rfl) (fun _ _ _ h => h) (Or.inl ⟨wanted_yes rfl rfl rfl rfl, by intro w; go_simp⟩) ?_
                      simp only [List.getElem_toArray, List.getElem_cons_zero, List.getElem_cons_succ, Act.put, List.setIfInBounds_toArray, List.set]
                      refine wpAny_take (i := 16) (v := .bool false) rfl (by kernel_rfl) (by kernel_rfl) (by kernel_rfl) (fun _ _ _ h => h) (Or.inl ⟨by rfl, by intro w; go_simp⟩) ?_
                      simp only [List.getElem_toArray, List.getElem_cons_zero, List.getElem_cons_succ, Act.put, List.setIfInBounds_toArray, List.set]
                      refine wpAny_done (by kernel_rfl) ?_ _
                      go_wp2_with fail
                      go_roundw
                      case rel => exact ⟨k + 1, R2.1, by omega, by go_num, hI5, hrow5, hk5, by have h9 := HW.out; rw [if_pos hb2] at h9; exact h9⟩
                      case measure => simp [intOf]; omega
      · have hRe : R = (s', true) := by
          have := hW.out
          rw [List.drop_eq_nil_of_le (by rw [← Hll.out]; omega), walkL] at this
          exact this.symm
        subst hRe
        go_wp2_with fail
        go_ret
        exact ⟨rfl, hI'.out, hrow'.out, hkr.out⟩
end Go.Proofs.YtlcljanibjdejaaGreat

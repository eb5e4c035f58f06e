/- CleanGood holds: for every input the law returns true, and each argument reads behind the call as it read before; no condition. A part of its proof. -/
import Derived.Test.YtlcljanibjdejaaGreatCg06
import Derived.Laws.ResultCell
namespace Go.Proofs.YtlcljanibjdejaaGreat
open Go.RowKit Go.Maps
theorem wpList_append_own_at9 {P : Program} (w : World) {ops : Array Oper} {rest : List Oper} {o : Oper} {a : Act} {Q : Exit → Act → World → Prop} (hgd : o.guard = none) (s x : Operand) (t : TypeId)
    (ho : o.op = .call { callee := .builtin .append, args := #[s, x], argTypes := #[t, t] })
    (base : Nat) (e : TypeId) (i : TypeInfo) (z : Value) (size bytes : Nat) (ht : P.underlying t = some (.slice e)) (hi : P.info? e = some i) (hz : i.zero = some z)
    (hsize : i.size = size) (hby : i.bytes = bytes) (hzs : z.cells.size = size) (hsz : 0 < size)
    (v : Value) (n : Nat) (xs : List Value) (hs : a.eval s = v) (hown : w.ownsRow base e size v n xs)
    (ad : Addr) (m c : Nat) (news : List Value) (hx : a.eval x = .slice (some ad) m c) (hl : news.length = m * size) (hnews : ∀ j u, news[j]? = some u → w.cell? (ad.add j) = some u) (h1 : ∀ u ∈ news, u.oneCell' = true)
    (h63 : n + m ≤ maxLen) (hbytes : (n + m) * bytes ≤ 140737488355328) (hbase : base ≤ w.heap.size)
    (h : ∀ v' w', w'.ownsRow base e size v' (n + m) (xs ++ news) → w.grownBy w' v.ownBlock → (v'.ownBlock = v.ownBlock ∨ v'.ownBlock = some w.heap.size) → wpList P ops Q rest (a.put o.dst v') w') : wpList P ops Q (o :: rest) a w := by
  refine wpList_plain hgd fun K hK => ?_
  obtain ⟨v', w', hr, h2, h3, _, h5⟩ := run_append_own_at (P := P) w base t o.type e i z size bytes ht hi hz hsize hby hzs hsz v n xs hown ad m c news hl hnews h1 h63 hbytes hbase
  unfold Oper.wp execOp
  simp only [ho, resolve, invoke, builtin, Sem.run_bind, Sem.run_pure, Result.andThen_ok, List.map_toArray, List.map_cons, List.map_nil, hs, hx, hr]
  exact hK _ _ (h v' w' h2 h3 h5)
structure IsOut (w : World) (B b : Nat) (outv : Value) (l : List (Tok × Value)) : Prop where
  blk : w.heap[b]? = some (.cells #[outv] 26 (0, 0))
  row : w.ownsRow B 117 4 outv l.length (outCells l)
  attrs : ∀ p ∈ l, HasAttrs w B p
  hb : B ≤ b
def tO (b : Nat) (outv : Value) : List Nat := b :: outv.ownBlock.toList
theorem IsOut.lt {w : World} {B b : Nat} {outv : Value} {l : List (Tok × Value)} (h : IsOut w B b outv l) : b < w.heap.size := lt_of_block h.blk
theorem IsOut.ge {w : World} {B b : Nat} {outv : Value} {l : List (Tok × Value)} (h : IsOut w B b outv l) : ∀ g, g ∈ tO b outv → B ≤ g ∧ g < w.heap.size := by
  intro g hg
  simp [tO] at hg
  rcases hg with rfl | hg
  · exact ⟨h.hb, h.lt⟩
  · exact h.row.lt g hg
theorem IsOut.keepsNil {w w' : World} {B b : Nat} {outv : Value} {l : List (Tok × Value)} (h : IsOut w B b outv l) (hk : Keeps [] w w') : IsOut w' B b outv l :=
  ⟨by rw [hk.block b h.lt List.not_mem_nil]; exact h.blk, hk.owns h.row (fun _ _ => List.not_mem_nil), fun p hp => hk.owns (h.attrs p hp) (fun _ _ => List.not_mem_nil), h.hb⟩
theorem IsOut.grow {w w3 : World} {B b : Nat} {outv : Value} {l : List (Tok × Value)} (h : IsOut w B b outv l) (hk : Keeps outv.ownBlock.toList w w3) {v3 : Value} {p : Tok × Value} (ho : w3.ownsRow B 117 4 v3 (l.length + 1) (outCells l ++ tokCells p)) (hw : v3.ownBlock = outv.ownBlock ∨ ∃ n, v3.ownBlock = some n ∧ w.heap.size ≤ n) (hp : HasAttrs w B p) :
    IsOut (w3.setCell ⟨b, 0, none⟩ v3) B b v3 (l ++ [p]) ∧ Stp w (tO b outv) (w3.setCell ⟨b, 0, none⟩ v3) (tO b v3) := by
  have hbo : b ∉ outv.ownBlock.toList := fun hm => block_ne h.row h.blk (by decide) (by simpa using hm)
  have hblk3 : w3.heap[b]? = some (.cells #[outv] 26 (0, 0)) := by rw [hk.block b h.lt hbo]; exact h.blk
  have hks : Keeps [b] w3 (w3.setCell ⟨b, 0, none⟩ v3) := (Keeps.refl [b] w3).setCell (.inl (by simp)) _
  have hat : ∀ q, HasAttrs w B q → HasAttrs (w3.setCell ⟨b, 0, none⟩ v3) B q := fun q hq => by
    have h3 : HasAttrs w3 B q := hk.owns hq (fun g hg hm => rows_apart hq h.row (by decide) hg (by simpa using hm))
    exact hks.owns h3 (fun g hg hm => by simp at hm; subst hm; exact block_ne h3 hblk3 (by decide) hg)
  refine ⟨⟨by simp [World.setCell, Array.getElem?_modify, hblk3], ?_, ?_, h.hb⟩, ?_, ?_⟩
  · rw [outCells_add, List.length_append]
    exact hks.owns ho (fun g hg hm => by simp at hm; subst hm; exact block_ne ho hblk3 (by decide) hg)
  · intro q hq
    rcases List.mem_append.1 hq with hq | hq
    · exact hat q (h.attrs q hq)
    · simp at hq
      subst hq
      exact hat q hp
  · exact (hk.to (T := tO b outv) (fun g hg => by simp [tO] at hg ⊢; exact .inr hg)).trans (hks.to (fun g hg => by simp [tO] at hg ⊢; exact .inl hg))
  · intro g hg hlt
    simp [tO] at hg ⊢
    rcases hg with hg | hg
    · exact .inl hg
    · rcases hw with hw | ⟨n, hw, hn⟩
      · exact .inr (hw ▸ hg)
      · rw [hw] at hg; simp at hg; omega
set_option maxRecDepth 4000 in
set_option maxHeartbeats 4000000 in
theorem put82_any (B b : Nat) (outv : Value) (l : List (Tok × Value)) (w : World) (h : IsOut w B b outv l) (hl : l.length ≤ 4000000) (kd : Int) (nm tx : List UInt8) (la : List Pair) (o : Option Addr) (n c : Nat) (hp : HasAttrs w B (⟨kd, nm, la, tx⟩, .slice o n c)) :
    Calls Tryz.prog 115 #[.agg #[.int .i64 kd, .string ⟨nm.toArray⟩, .slice o n c, .string ⟨tx.toArray⟩], .pointer (some ⟨b, 0, none⟩)] w fun e w' =>
      e = .returned (.tuple #[]) ∧ ∃ v3, IsOut w' B b v3 (l ++ [(⟨kd, nm, la, tx⟩, .slice o n c)]) ∧ Stp w (tO b outv) w' (tO b v3) := by
  obtain ⟨i0, hi, hz0, hz1, hz2⟩ := info_parts info43
  have hka : Keeps [] w (w.alloc (.cells #[.int .i64 kd, .string ⟨nm.toArray⟩, .slice o n c, .string ⟨tx.toArray⟩] 117)) := (Keeps.refl [] w).alloc _
  have hbx : IsTok (w.alloc (.cells #[.int .i64 kd, .string ⟨nm.toArray⟩, .slice o n c, .string ⟨tx.toArray⟩] 117)) w.heap.size (⟨kd, nm, la, tx⟩, .slice o n c) := heap_alloc_new w _
  obtain ⟨W, hW⟩ : ∃ W, w.alloc (.cells #[.int .i64 kd, .string ⟨nm.toArray⟩, .slice o n c, .string ⟨tx.toArray⟩] 117) = W := ⟨_, rfl⟩
  rw [hW] at hka hbx
  have h1 := h.keepsNil hka
  have hp1 : HasAttrs W B _ := hka.owns hp (fun _ _ => List.not_mem_nil)
  have c0 : W.cell? ⟨b, 0, none⟩ = some outv := cell_blk h1.blk 0
  have b0 := hbx.cell 0
  have b1 := hbx.cell 1
  have b2 := hbx.cell 2
  have b3 := hbx.cell 3
  simp at b0 b1 b2 b3
  have hBW : B ≤ W.heap.size := Nat.le_trans h1.hb (Nat.le_of_lt h1.lt)
  obtain ⟨oo, oc, hov⟩ := row_form h1.row
  subst hov
  have HW := hide hW
  have hrow := h1.row
  clear hW
  go_enter Tryz.func115, Tryz.ntmps115
  go_upto_region 1 with fail
  rw [HW.out]
  go_wp2_with (at_builtin; refine wpList_append_own_at9 _ rfl _ _ 26 rfl B 117 i0 _ 4 64 Tryz.underlying26 hi hz0 hz1 hz2 (by kernel_rfl) (by decide) (.slice oo l.length oc) l.length (outCells l) rfl (hrow.alloc _) ⟨W.heap.size, 0, none⟩ 1 1 (tokCells (⟨kd, nm, la, tx⟩, .slice o n c)) rfl rfl ?c1 ?c2 ?c3 ?c4 ?c5 ?_)
  case c1 => exact lit_cells W _ 117
  case c2 => exact one_cells rfl
  case c3 => unfold maxLen; omega
  case c4 => omega
  case c5 => exact Nat.le_trans hBW (by simp)
  intro v3 w3 ho3 hg3 hw3
  obtain ⟨o3, c3, hv3⟩ := row_form ho3
  subst hv3
  have hk3 : Keeps (Value.slice oo l.length oc).ownBlock.toList W w3 := ((Keeps.refl _ W).alloc _).grown hg3 (fun i e => .inl (by simp [e]))
  have hbo : b ∉ (Value.slice oo l.length oc).ownBlock.toList := fun hm => block_ne h1.row h1.blk (by decide) (by simpa using hm)
  have hblk3 := (hk3.block b h1.lt hbo).trans h1.blk
  have d0 : w3.cell? ⟨b, 0, none⟩ = some (.slice oo l.length oc) := cell_blk hblk3 0
  have d1 : w3.frozen? ⟨b, 0, none⟩ = false := free_blk hblk3 0
  go_wp2_with fail
  go_end0
  have hw4 : (Value.slice o3 (l.length + 1) c3).ownBlock = (Value.slice oo l.length oc).ownBlock ∨ ∃ k, (Value.slice o3 (l.length + 1) c3).ownBlock = some k ∧ W.heap.size ≤ k := by
    rcases hw3 with hw3 | hw3
    · exact .inl hw3
    · exact .inr ⟨_, hw3, by simp⟩
  have hfin := h1.grow hk3 ho3 hw4 hp1
  exact ⟨rfl, _, hfin.1, (Stp.nil hka _).trans hfin.2⟩
theorem enters115 : Enters 115 := enters_of Tryz.func115 (by kernel_rfl) (by kernel_rfl)
def flatL : List Nd → List Tok
  | [] => []
  | .mk n a t k :: r => (if n.isEmpty = true then [⟨1, [], [], t⟩] else ⟨2, n, a, []⟩ :: (flatL k ++ if emptyN n = true then [] else [⟨3, n, [], []⟩])) ++ flatL r
theorem flatL_cons (n : Nd) (r : List Nd) : flatL (n :: r) = (if n.name.isEmpty = true then [⟨1, [], [], n.text⟩] else ⟨2, n.name, n.attrs, []⟩ :: (flatL n.kids ++ if emptyN n.name = true then [] else [⟨3, n.name, [], []⟩])) ++ flatL r := by
  obtain ⟨n, a, t, k⟩ := n
  rw [flatL]
  rfl
theorem flatL_len : (ns : List Nd) → (flatL ns).length ≤ 2 * sizeNs ns
  | [] => by simp [flatL]
  | .mk n a t k :: r => by
    have h1 := flatL_len k
    have h2 := flatL_len r
    rw [flatL, sizeNs, List.length_append]
    split
    · simp; omega
    · split <;> simp <;> omega
def FewNs : List Nd → Prop
  | [] => True
  | .mk _ a _ k :: r => a.length ≤ 2000000 ∧ FewNs k ∧ FewNs r
theorem few_mem {n : Nd} : {ns : List Nd} → FewNs ns → n ∈ ns → n.attrs.length ≤ 2000000 ∧ FewNs n.kids
  | .mk m a t k :: r, h, hm => by
    unfold FewNs at h
    rcases List.mem_cons.1 hm with rfl | hm
    · exact ⟨h.1, h.2.1⟩
    · exact few_mem h.2.2 hm
set_option maxRecDepth 8000 in
set_option maxHeartbeats 8000000 in
theorem flat_all (B b : Nat) (w0 : World) (v : Value) (ns : List Nd) (h : Ns w0 (fun g => g < B) v ns) : ∀ (w : World) (L : List Nat), Keeps L w0 w → (∀ g, g ∈ L → B ≤ g) → ∀ (outv : Value) (l : List (Tok × Value)), IsOut w B b outv l → l.length + 2 * sizeNs ns ≤ 4000000 → FewNs ns →
    Calls Tryz.prog 114 #[v, .func (.func 115) #[] #[.pointer (some ⟨b, 0, none⟩)]] w fun e w' => e = .returned (.tuple #[]) ∧ ∃ v' l', l'.map (·.1) = l.map (·.1) ++ flatL ns ∧ IsOut w' B b v' l' ∧ Stp w (tO b outv) w' (tO b v') := by
  induction h with
  | mk v nl ns hns hl ha hk ih =>
    intro w L hkw hPL outv l hO hsz hFew
    have hlw := hl.keeps hkw (fun g hg hm => by have := hPL g hm; omega)
    obtain ⟨o, c, rfl, h1, h2⟩ := hlw.lies.form
    unfold maxLen at h2
    obtain ⟨R, hR⟩ : ∃ R, l.map (·.1) ++ flatL ns = R := ⟨_, rfl⟩
    rw [hR]
    have hll : nl.length = ns.length := by rw [← hns, List.length_map]
    have hE := enters115
    unfold Enters at hE
    have HL := hide hlw
    have HI := hide ih
    have HKW := hide hkw
    have HR := hide hR
    have Hns := hide hns
    have Hll := hide hll
    have Hsz := hide hsz
    have HA := hide ha
    have HPL := hide hPL
    have HFew := hide hFew
    have HKD := hide hk
    have HO := hide hO
    clear hlw ih hkw hR hns hll hsz hl ha hk hPL hFew hO
    go_enter Tryz.func114, Tryz.ntmps114
    go_wp2_with fail
    go_loopw [8] (fun i wr => ∃ (k : Nat), k ≤ nl.length ∧ i = .int .i64 k ∧ Hid (∃ v' l', l'.map (·.1) ++ flatL (ns.drop k) = R ∧ l'.length + 2 * sizeNs (ns.drop k) ≤ 4000000 ∧ IsOut wr B b v' l' ∧ Stp w (tO b outv) wr (tO b v'))) (fun i _ => nl.length - (intOf i).toNat)
    case atStart => exact ⟨0, Nat.zero_le _, rfl, outv, l, HR.out, Hsz.out, HO.out, Stp.refl _ _⟩
    case round =>
      obtain ⟨k, hk, rfl, hrel⟩ := hrel
      clear HR
      obtain ⟨v', l', hf, hz, hO', hS'⟩ := hrel.out
      by_cases hlt : k < nl.length
      · have hge := HO.out.ge
        have hkr : Keeps (tO b outv) w wr := hS'.1
        have hPc : ∀ g, g < B → g ∉ tO b outv := fun g hg hm => by have := (hge g hm).1; omega
        obtain ⟨g, x, hoo, hcl⟩ := (HL.out.keeps hkr hPc).lies.addr (by omega)
        subst hoo
        obtain ⟨a0, a1, a2, a3⟩ := lies_pn hcl k hlt
        have hkn : k < ns.length := by rw [← Hll.out]; exact hlt
        have hpn : nl[k].nd = ns[k] := by
          have h9 : (nl.map Pn.nd)[k]? = ns[k]? := by rw [Hns.out]
          simpa [List.getElem?_eq_getElem hlt, List.getElem?_eq_getElem hkn] using h9
        rw [List.drop_eq_getElem_cons hkn, flatL_cons, ← hpn] at hf
        rw [List.drop_eq_getElem_cons hkn, sizeNs_cons, ← hpn] at hz
        have hpk := HI.out nl[k] (List.getElem_mem hlt)
        have hak := (((HA.out nl[k] (List.getElem_mem hlt)).keeps HKW.out (fun g hg hm => by have := HPL.out g hm; omega)).keeps hkr hPc)
        have hfew := few_mem HFew.out (n := nl[k].nd) (by rw [hpn]; exact List.getElem_mem hkn)
        have hkf := (HKD.out nl[k] (List.getElem_mem hlt)).form
        clear hcl
        generalize nl[k] = p at *
        obtain ⟨nd, pav, pkv⟩ := p
        simp only at a0 a1 a2 a3 hf hz hpk hak hfew hkf
        clear hpn
        obtain ⟨qo, qc, hq⟩ := hak.form
        subst hq
        obtain ⟨ko, kc, hkv⟩ := hkf
        subst hkv
        obtain ⟨Wb, hWb⟩ : ∃ Wb, wr.alloc (.cells #[.string ⟨nd.name.toArray⟩, .slice qo nd.attrs.length qc, .string ⟨nd.text.toArray⟩, .slice ko nd.kids.length kc] 45) = Wb := ⟨_, rfl⟩
        have hka : Keeps [] wr Wb := by rw [← hWb]; exact (Keeps.refl [] wr).alloc _
        have hbx : Wb.heap[wr.heap.size]? = some (.cells #[.string ⟨nd.name.toArray⟩, .slice qo nd.attrs.length qc, .string ⟨nd.text.toArray⟩, .slice ko nd.kids.length kc] 45 (0, 0)) := by rw [← hWb]; exact heap_alloc_new wr _
        have hOb := hO'.keepsNil hka
        have hSb := hS'.trans (Stp.nil hka (tO b v'))
        have hboxo : ∀ (Wx : World) (v2 : Value), Stp Wb (tO b v') Wx (tO b v2) → Wx.heap[wr.heap.size]? = some (.cells #[.string ⟨nd.name.toArray⟩, .slice qo nd.attrs.length qc, .string ⟨nd.text.toArray⟩, .slice ko nd.kids.length kc] 45 (0, 0)) := fun Wx v2 hs =>
          (hs.1.block _ (lt_of_block hbx) (fun hm => by have := (hO'.ge _ hm).2; omega)).trans hbx
        have HBX := hide hboxo
        have hakb := hak.keeps hka (fun _ _ => List.not_mem_nil)
        have k0 : Wb.cell? ⟨wr.heap.size, 0, none⟩ = some (.string ⟨nd.name.toArray⟩) := cell_blk hbx 0
        have k1 : Wb.cell? ⟨wr.heap.size, 1, none⟩ = some (.slice qo nd.attrs.length qc) := cell_blk hbx 1
        have k2 : Wb.cell? ⟨wr.heap.size, 2, none⟩ = some (.string ⟨nd.text.toArray⟩) := cell_blk hbx 2
        have Hf := hide hf
        have Hz := hide hz
        have HWb := hide hWb
        clear hf hz hWb hrel hboxo
        have hll' : l'.length ≤ 4000000 := by have := Hz.out; omega
        cases t0 : nd.name.isEmpty
        · have hcp := hide (fun (W' : World) (hk' : Keeps [] Wb W') => copied_any W' _ nd.attrs (hakb.lies.keeps hk') hfew.1)
          have hBb : B ≤ Wb.heap.size := Nat.le_trans hOb.hb (Nat.le_of_lt hOb.lt)
          have hput := hide (fun (W' : World) (hk' : Keeps [] Wb W') (o9 : Option Addr) (n9 c9 : Nat) (hp9 : HasAttrs W' B (⟨2, nd.name, nd.attrs, []⟩, .slice o9 n9 c9)) => put82_any B b v' l' W' (hOb.keepsNil hk') hll' 2 nd.name [] nd.attrs o9 n9 c9 hp9)
          go_upto_region 5 with fail
          rw [HWb.out]
          go_cut [] from 20 to 27 (fun wc => ∃ v3 av3, IsOut wc B b v3 (l' ++ [(⟨2, nd.name, nd.attrs, []⟩, av3)]) ∧ Stp Wb (tO b v') wc (tO b v3))
          case first =>
            go_region_law (first
              | (refine step_call rfl 165 _ _ rfl enters165 #[.slice qo nd.attrs.length qc] (by simp [Act.eval]) (hcp.out _ ((Keeps.refl [] _).drew)) ?_; rintro e w2 ⟨v2, rfl, ho2, hk2⟩; obtain ⟨o2, c2, hv2⟩ := row_form ho2; subst hv2; refine ⟨_, rfl, ?_⟩; have x0 := cell_keeps hk2 k0; have hp2 : HasAttrs w2 B (⟨2, nd.name, nd.attrs, []⟩, .slice o2 nd.attrs.length c2) := ho2.mono hBb)
              | (refine step_callv (by simp [Region.wanted]) (.tmp 20) _ _ rfl 115 #[.pointer (some ⟨b, 0, none⟩)] rfl enters115 #[.agg #[.int .i64 2, .string ⟨nd.name.toArray⟩, .slice o2 nd.attrs.length c2, .string ⟨#[]⟩]] (by first | (simp [Act.eval]; done) | (simp [Act.eval, Act.put]; done)) (hput.out w2 (((Keeps.refl [] _).drew).trans hk2) _ _ _ hp2) ?_; rintro e w3 ⟨rfl, v3, hO3, hS3⟩; refine ⟨_, rfl, ?_⟩))
            all_goals go_wp2
            all_goals go_meet
            all_goals exact ⟨v3, _, hO3, (Stp.nil (((Keeps.refl [] _).drew).trans hk2) _).trans hS3⟩
          case rest =>
            obtain ⟨v3, av3, hO3, hS3⟩ := hcut
            clear hcp hput
            have hbx3 := HBX.out wc v3 hS3
            have m3 : wc.cell? ⟨wr.heap.size, 3, none⟩ = some (.slice ko nd.kids.length kc) := cell_blk hbx3 3
            have hrec := hide (hpk wc (L ++ tO b outv) ((HKW.out.to (fun g hg => List.mem_append_left _ hg)).trans ((hSb.trans hS3).1.to (fun g hg => List.mem_append_right _ hg))) (fun g hg => (List.mem_append.1 hg).elim (HPL.out g) (fun h9 => (hge g h9).1)) v3 _ hO3 (by have := Hz.out; simp; omega) hfew.2)
            go_wp2_with fail
            refine hrec.out.mono ?_
            rintro e w4 ⟨rfl, v4, l4, hl4, hO4, hS4⟩
            have hbx4 := HBX.out w4 v4 (hS3.trans hS4)
            have m0 : w4.cell? ⟨wr.heap.size, 0, none⟩ = some (.string ⟨nd.name.toArray⟩) := cell_blk hbx4 0
            have hie := hide (fun W' => isEmpty_any nd.name W')
            have hl4l : l4.length = l'.length + 1 + (flatL nd.kids).length := by
              have h9 := congrArg List.length hl4
              simp only [List.length_map, List.length_append, List.length_singleton] at h9
              exact h9
            have hfl := flatL_len nd.kids
            have Hl4 := hide hl4
            clear hrec hl4
            have hl4b : l4.length ≤ 4000000 := by have := Hz.out; omega
            have hS04 := (hSb.trans hS3).trans hS4
            cases t1 : emptyN nd.name
            · rw [t1] at hie
              have hput := hide (put82_any B b v4 l4 w4 hO4 hl4b 3 nd.name [] [] none 0 0 (World.ownsRow_nil _ _ _ _))
              go_wp2_with fail
              refine (hie.out _).mono ?_
              rintro e w5 ⟨rfl, h5⟩
              obtain rfl : w4 = w5 := h5.symm
              go_wp2_with fail
              refine hput.out.mono ?_
              rintro e w6 ⟨rfl, v6, hO6, hS6⟩
              go_wp2_with fail
              go_roundw
              case rel =>
                refine ⟨k + 1, by omega, by go_num, v6, _, ?_, ?_, hO6, hS04.trans hS6⟩
                · have h9 := Hf.out
                  rw [if_neg (by rw [t0]; simp), if_neg (by rw [t1]; simp)] at h9
                  rw [← h9, List.map_append, Hl4.out]
                  simp
                · have := Hz.out
                  simp
                  omega
              case measure => simp [intOf]; omega
            · rw [t1] at hie
              go_wp2_with fail
              refine (hie.out _).mono ?_
              rintro e w5 ⟨rfl, h5⟩
              obtain rfl : w4 = w5 := h5.symm
              go_wp2_with fail
              go_roundw
              case rel =>
                refine ⟨k + 1, by omega, by go_num, v4, _, ?_, ?_, hO4, hS04⟩
                · have h9 := Hf.out
                  rw [if_neg (by rw [t0]; simp), if_pos t1] at h9
                  rw [← h9, Hl4.out]
                  simp
                · have := Hz.out
                  omega
              case measure => simp [intOf]; omega
        · have hput := hide (put82_any B b v' l' Wb hOb hll' 1 [] nd.text [] none 0 0 (World.ownsRow_nil _ _ _ _))
          go_upto_region 4 with fail
          rw [HWb.out]
          go_wp2_with fail
          refine hput.out.mono ?_
          rintro e w2 ⟨rfl, v3, hO3, hS3⟩
          go_wp2_with fail
          go_roundw
          case rel =>
            refine ⟨k + 1, by omega, by go_num, v3, _, ?_, ?_, hO3, hSb.trans hS3⟩
            · have h9 := Hf.out
              rw [if_pos t0] at h9
              simpa using h9
            · have := Hz.out
              simp
              omega
          case measure => simp [intOf]; omega
      · have hke : k = nl.length := by omega
        subst hke
        go_wp2_with fail
        go_end0
        refine ⟨rfl, v', l', ?_, hO', hS'⟩
        rw [Hll.out, List.drop_length] at hf
        simpa [flatL] using hf
set_option maxRecDepth 4000 in
set_option maxHeartbeats 4000000 in
theorem treeFlat_any (w : World) (P : Nat → Prop) (v : Value) (ns : List Nd) (h : Ns w P v ns) (hsz : sizeNs ns ≤ 2000000) (hF : FitsNs ns) (hFew : FewNs ns) :
    Calls Tryz.prog 38 #[v] w fun e w' => ∃ v', e = .returned (.tuple #[v', .int .i64 (chkTree ns)]) ∧ (∃ n c a, v' = .slice a n c ∧ n = if chkTree ns = 0 then (flatL ns).length else 0) ∧ Toks w' v' (if chkTree ns = 0 then flatL ns else []) ∧ Keeps [] w w' := by
  have hck := hide (treeCheck_any w P v ns h hsz hF)
  have hfl := hide (fun (w1 : World) (hk1 : Keeps [] w w1) => flat_all w1.heap.size w1.heap.size w1 v ns ((h.keeps0 hk1).lt) (w1.alloc (.cells #[.slice none 0 0] 26)) [] ((Keeps.refl [] w1).alloc _) (by simp) (.slice none 0 0) [] ⟨heap_alloc_new w1 _, World.ownsRow_nil _ _ _ _, by simp, Nat.le_refl _⟩ (by simp; omega) hFew)
  obtain ⟨o, c', hv⟩ := h.form
  subst hv
  generalize chkTree ns = E at *
  clear h
  by_cases hE : E = 0
  · subst hE
    rw [if_pos rfl, if_pos rfl]
    go_enter Tryz.func38, Tryz.ntmps38
    go_wp2_with fail
    refine hck.out.mono ?_
    rintro e w1 ⟨rfl, hk1⟩
    go_wp2_with fail
    refine (hfl.out w1 hk1).mono ?_
    rintro e w2 ⟨rfl, v2, l2, hl2, hO2, hS2⟩
    have n0 : w2.cell? ⟨w1.heap.size, 0, none⟩ = some v2 := cell_blk hO2.blk 0
    obtain ⟨o2, c2, hv2⟩ := row_form hO2.row
    subst hv2
    have hll := congrArg List.length hl2
    simp only [List.length_map, List.map_nil, List.nil_append] at hll hl2
    have hts : Toks w2 (.slice o2 l2.length c2) (flatL ns) := ⟨l2, hl2, Lies.of_row hO2.row, fun p hp => Lies.of_row (hO2.attrs p hp)⟩
    have hkf : Keeps [] w w2 := keeps_within (hk1.alloc _) hS2.1 (fun g hg hlt => by simp [tO, Value.ownBlock] at hg; have := hk1.size; omega)
    rw [hll] at n0 hts
    clear hck hfl hl2 hll hO2
    go_wp2_with fail
    go_ret2
    exact ⟨_, rfl, ⟨_, _, _, rfl, rfl⟩, hts, hkf⟩
  · rw [if_neg hE, if_neg hE]
    have hEb : (E != 0) = true := by simpa using hE
    go_enter Tryz.func38, Tryz.ntmps38
    go_wp2_with fail
    refine hck.out.mono ?_
    rintro e w1 ⟨rfl, hk1⟩
    go_wp2_with fail
    go_ret2
    exact ⟨_, rfl, ⟨_, _, _, rfl, rfl⟩, ⟨[], rfl, ⟨rfl, .inl ⟨rfl, rfl⟩⟩, by simp⟩, hk1⟩
end Go.Proofs.YtlcljanibjdejaaGreat
namespace Go.Proofs.YtlcljanibjdejaaGreat
open Go.RowKit
theorem keeps_on {S T : List Nat} {a b c : World} (h : Keeps T a b) (k : Keeps S b c) (hS : ∀ g, g ∈ S → g < a.heap.size → g ∈ T) : Keeps T a c :=
  ⟨k.os.trans h.os, k.tape.trans h.tape, k.output.trans h.output, Nat.le_trans h.size k.size, fun i hi hT => (k.block i (Nat.lt_of_lt_of_le hi h.size) (fun hm => hT (hS i hm hi))).trans (h.block i hi hT)⟩
def stopped (e : Int) : List PanicEntry := [{ v := .iface 168 (.agg #[.int .i64 e]), recovered := false }]
set_option maxHeartbeats 400000 in
theorem with_any (e : Int) (w : World) : Calls Tryz.prog 141 #[.int .i64 e] w fun r w' => r = .panicked (stopped e) ∧ w' = w := by
  go_enter Tryz.func141, Tryz.ntmps141
  go_wp2
  exact ⟨rfl, rfl, rfl⟩
theorem laid140 (x n : Value) : (#[x] ++ ((Array.replicate 16 undef).setIfInBounds 3 n).setIfInBounds 0 n) = #[x, n, undef, undef, n, undef, undef, undef, undef, undef, undef, undef, undef, undef, undef, undef, undef] := by kernel_rfl
set_option maxHeartbeats 400000 in
theorem caught_idle (p : Addr) (w : World) :
    CallsD Tryz.prog 140 #[.pointer (some p)] .returning w fun e u' w' => e = .returned (.tuple #[]) ∧ u' = .returning ∧ w' = w := by
  refine callsD_of_wpS Tryz.func140 rfl fun c₀ cs hu => ?_
  apply wpS_seq
  apply wpS_region
  simp [wpOpsS, go_sem, recoverD, hu, Tryz.ntmps140, Exit.thenS]
  rw [laid140]
  refine wpS_of_wp ?_
  go_wp2
  cases c₀
  simp_all [bodyPostS, results, Tryz.results140]
theorem assert168 (e : Int) (w : World) : (Instr.typeAssert (.iface 168 (.agg #[.int .i64 e])) 20 168 true).run Tryz.prog w = .ok (.tuple #[.agg #[.int .i64 e], .bool true]) w := by kernel_rfl
set_option maxRecDepth 100000 in
set_option maxHeartbeats 400000 in
theorem caught_panicking (x e : Int) (pe : Nat) (w : World) (hf : w.heap[pe]? = some (.cells #[.int .i64 x] 22 (0, 0))) :
    CallsD Tryz.prog 140 #[.pointer (some ⟨pe, 0, none⟩)] (.panicking (stopped e)) w fun r u' w' =>
      r = .returned (.tuple #[]) ∧ u' = .panicking [{ v := .iface 168 (.agg #[.int .i64 e]), recovered := true }] ∧ w'.cell? ⟨pe, 0, none⟩ = some (.int .i64 e) ∧ Keeps [pe] w w' := by
  refine callsD_of_wpS Tryz.func140 rfl fun c₀ cs hu => ?_
  unfold stopped at hu
  have hlt : pe < w.heap.size := lt_of_block hf
  have blk : ∀ o, (w.alloc o).heap[pe]? = some (.cells #[.int .i64 x] 22 (0, 0)) := fun o => (Below.heap_alloc w o _ hlt).trans hf
  have ce : ∀ o, (w.alloc o).cell? ⟨pe, 0, none⟩ = some (.int .i64 x) := fun o => cell_of_one (blk o)
  have fe : ∀ o, (w.alloc o).frozen? ⟨pe, 0, none⟩ = false := fun o => by simp [World.frozen?, blk o]
  have hta := assert168 e
  apply wpS_seq
  apply wpS_region
  simp [wpOpsS, go_sem, recoverD, hu, Tryz.ntmps140, Exit.thenS]
  rw [laid140]
  clear hu
  refine wpS_of_wp ?_
  go_wp2
  refine ⟨rfl, _, rfl, .tuple #[], by simp [results, Tryz.results140], rfl, rfl, ?_, ((Keeps.refl [pe] w).setCell (p := ⟨pe, 0, none⟩) (.inl (by simp)) _).alloc _⟩
  refine (World.cell?_of_block (Below.heap_alloc _ _ _ (by simpa [World.setCell] using hlt))).trans ?_
  simp [World.cell?, World.setCell, Array.getElem?_modify, hf]
set_option maxRecDepth 100000 in
set_option maxHeartbeats 1000000 in
theorem caught_any (K : Nat) (caps : Array Value) (Yes : World → Prop) (No : Int → World → Prop) (S : List Nat) (w : World) (hK : Enters K) (hS : ∀ i, i ∈ S → i < w.heap.size)
    (hY : ∀ w2 w3, w2.heap[w.heap.size]? = some (.cells #[.int .i64 0] 22 (0, 0)) → Yes w2 → Keeps [w.heap.size] w2 w3 → Yes w3) (hN : ∀ x w2 w3, w2.heap[w.heap.size]? = some (.cells #[.int .i64 0] 22 (0, 0)) → No x w2 → Keeps [w.heap.size] w2 w3 → No x w3)
    (hdo : ∀ w1, Keeps [] w w1 → w.heap.size < w1.heap.size → Calls Tryz.prog K caps w1 fun e w2 => (e = .returned (.tuple #[]) ∧ Yes w2 ∨ ∃ x, e = .panicked (stopped x) ∧ No x w2) ∧ Keeps S w1 w2) :
    Calls Tryz.prog 64 #[.func (.func K) #[] caps] w fun e w' =>
      (e = .returned (.int .i64 0) ∧ Yes w' ∨ ∃ x, e = .returned (.int .i64 x) ∧ No x w') ∧ Keeps S w w' := by
  have hmf : ∀ (fn : Fn) (first cap : Array Value) (w : World), (Instr.makeFunc fn first cap).run Tryz.prog w = .ok (.func fn first cap) w := fun _ _ _ _ => rfl
  have hK' := hK
  unfold Enters at hK'
  have hka : Keeps [] w (w.alloc (.cells #[.int .i64 0] 22)) := (Keeps.refl [] w).alloc _
  have hkS : ∀ w2, Keeps S (w.alloc (.cells #[.int .i64 0] 22)) w2 → Keeps S w w2 := fun w2 h => ((Keeps.refl S w).alloc _).trans h
  have hnew : (w.alloc (.cells #[.int .i64 0] 22)).heap[w.heap.size]? = some (.cells #[.int .i64 0] 22 (0, 0)) := heap_alloc_new w _
  have hns : w.heap.size ∉ S := fun h => by have := hS _ h; omega
  go_enter_defers Tryz.func64, Tryz.ntmps64
  go_wp2_with fail
  refine (hdo _ hka (by simp)).mono ?_
  rintro e w2 ⟨⟨rfl, hy⟩ | ⟨x, rfl, hno⟩, hk⟩
  · have hb2 : w2.heap[w.heap.size]? = some (.cells #[.int .i64 0] 22 (0, 0)) := (hk.block _ (by simp) hns).trans hnew
    have c2 : w2.cell? ⟨w.heap.size, 0, none⟩ = some (.int .i64 0) := cell_of_one hb2
    have f2 : w2.frozen? ⟨w.heap.size, 0, none⟩ = false := by simp [World.frozen?, hb2]
    go_wp2_with fail
    refine leaves_cons (f := 140) (args := #[.pointer (some ⟨w.heap.size, 0, none⟩)]) (by simp) (by simp [go_sem]) ?_
    refine (caught_idle _ _).mono ?_
    rintro e u' w3 ⟨rfl, rfl, rfl⟩
    have hks : Keeps [w.heap.size] w2 (w2.setCell ⟨w.heap.size, 0, none⟩ (.int .i64 0)) := (Keeps.refl _ w2).setCell (.inl (by simp)) _
    refine ⟨.int .i64 0, ?_, .inl ⟨rfl, hY _ _ hb2 hy hks⟩, ?_⟩
    · simp [results, Tryz.results64, asAddr, loadVar, go_sem, World.cell?, World.setCell, Array.getElem?_modify, hb2]
    · exact keeps_on (hkS _ hk) hks (fun i hi hlt => by simp at hi; omega)
  · have hb2 : w2.heap[w.heap.size]? = some (.cells #[.int .i64 0] 22 (0, 0)) := (hk.block _ (by simp) hns).trans hnew
    go_wp2_with fail
    refine leaves_cons (f := 140) (args := #[.pointer (some ⟨w.heap.size, 0, none⟩)]) (by simp) (by simp [go_sem]) ?_
    refine (caught_panicking 0 x w.heap.size w2 hb2).mono ?_
    rintro e u' w3 ⟨rfl, rfl, c3, hk3⟩
    refine ⟨.int .i64 x, ?_, .inr ⟨x, rfl, hN _ _ _ hb2 hno hk3⟩, ?_⟩
    · simp [results, Tryz.results64, asAddr, loadVar, go_sem, c3]
    · exact keeps_on (hkS _ hk) hk3 (fun i hi hlt => by simp at hi; omega)
end Go.Proofs.YtlcljanibjdejaaGreat
namespace Go.Proofs.YtlcljanibjdejaaGreat
open Go.RowKit Go.Maps
theorem cell_lt9 {w : World} {a : Addr} {u : Value} (h : w.cell? a = some u) : a.block < w.heap.size := by
  rcases Nat.lt_or_ge a.block w.heap.size with h' | h'
  · exact h'
  · unfold World.cell? at h
    rw [Array.getElem?_eq_none h'] at h
    simp at h
theorem lit_two (w : World) (c0 cs : Array Value) (j : Nat) (u : Value) (h : cs.toList[j]? = some u) : ((w.alloc (.cells c0 45)).alloc (.cells cs 45)).cell? ((⟨w.heap.size + 1, 0, none⟩ : Addr).add j) = some u := by
  have := lit_cells (w.alloc (.cells c0 45)) cs 45 j u h
  simpa using this
theorem pns_one : ∀ (l : List Pn), (∀ p ∈ l, (∃ o n c, p.av = .slice o n c) ∧ ∃ o n c, p.kv = .slice o n c) → ∀ u ∈ pnsCells l, u.oneCell' = true
  | [], _, u, h => by simp [pnsCells] at h
  | p :: l, hf, u, h => by
    have e : pnsCells (p :: l) = pnCells p ++ pnsCells l := by simp [pnsCells]
    rw [e, List.mem_append] at h
    rcases h with h | h
    · obtain ⟨⟨o, n, c, ha⟩, ⟨o', n', c', hk⟩⟩ := hf p (by simp)
      simp [pnCells, ha, hk] at h
      rcases h with rfl | rfl | rfl | rfl <;> rfl
    · exact pns_one l (fun p hp => hf p (by simp [hp])) u h
structure OutT (w : World) (B : Nat) (ov : Value) (l : List Pn) : Prop where
  row : w.ownsRow B 45 4 ov l.length (pnsCells l)
  done : ∀ q ∈ l, LiesP w (DoneB B ov.ownBlock.toList) q.av q.nd.attrs.length 2 (pairCells q.nd.attrs) ∧ Ns w (DoneB B ov.ownBlock.toList) q.kv q.nd.kids
theorem OutT.keepsNil {w w' : World} {B : Nat} {ov : Value} {l : List Pn} (h : OutT w B ov l) (hk : Keeps [] w w') : OutT w' B ov l :=
  ⟨hk.owns h.row (fun _ _ => List.not_mem_nil), fun q hq => ⟨(h.done q hq).1.keeps hk (fun _ _ => List.not_mem_nil), (h.done q hq).2.keeps hk (fun _ _ => List.not_mem_nil)⟩⟩
theorem OutT.start (w : World) (B : Nat) : OutT w B (.slice none 0 0) [] := ⟨World.ownsRow_nil _ _ _ _, by simp⟩
theorem OutT.push {w w' : World} {B : Nat} {ov : Value} {l : List Pn} {q : Pn} (h : OutT w B ov l) (hk : Keeps ov.ownBlock.toList w w') {av : Value} (ho : w'.ownsRow B 45 4 av (l.length + 1) (pnsCells l ++ pnCells q)) (hw : av.ownBlock = ov.ownBlock ∨ ∃ n, av.ownBlock = some n ∧ w.heap.size ≤ n)
    (hqa : LiesP w (DoneB B ov.ownBlock.toList) q.av q.nd.attrs.length 2 (pairCells q.nd.attrs)) (hqk : Ns w (DoneB B ov.ownBlock.toList) q.kv q.nd.kids) : OutT w' B av (l ++ [q]) := by
  have hT : ∀ g, g < w.heap.size → g ∈ av.ownBlock.toList → g ∈ ov.ownBlock.toList := by
    intro g hg hm
    rcases hw with hw | ⟨n, hw, hn⟩
    · rw [← hw]; exact hm
    · rw [hw] at hm; simp at hm; omega
  have ec : pnsCells (l ++ [q]) = pnsCells l ++ pnCells q := by simp [pnsCells]
  refine ⟨?_, fun p hp => ?_⟩
  · rw [ec, List.length_append, List.length_singleton]; exact ho
  · rcases List.mem_append.1 hp with hp | hp
    · exact ⟨(h.done p hp).1.move hk (fun _ h => h) hT, (h.done p hp).2.move hk (fun _ h => h) hT⟩
    · simp at hp
      subst hp
      exact ⟨hqa.move hk (fun _ h => h) hT, hqk.move hk (fun _ h => h) hT⟩
theorem OutT.ns {w : World} {B : Nat} {ov : Value} {l : List Pn} (h : OutT w B ov l) : Ns w (fun g => B ≤ g) ov (l.map Pn.nd) :=
  .mk _ l _ rfl (LiesP.of_row h.row (fun g hg => (h.row.lt g hg).1)) (fun p hp => (h.done p hp).1.mono (fun _ _ hg => hg.1)) (fun p hp => (h.done p hp).2.mono (fun _ _ hg => hg.1))
def txV (tx : List UInt8) : Value := .agg #[.string ⟨#[]⟩, .slice none 0 0, .string ⟨tx.toArray⟩, .slice none 0 0]
def txP (tx : List UInt8) : Pn := ⟨.mk [] [] tx [], .slice none 0 0, .slice none 0 0⟩
def Laid1 (w : World) (B : Nat) (ov : Value) (l : List Pn) (tx : List UInt8) (e : Ending) (w' : World) : Prop :=
  ∃ v', e = .returned v' ∧ OutT w' B v' (l ++ [txP tx]) ∧ (v'.ownBlock = ov.ownBlock ∨ ∃ g, v'.ownBlock = some g ∧ w.heap.size ≤ g) ∧ Keeps ov.ownBlock.toList w w'
theorem laid1_of {w w3 : World} {B : Nat} {ov v3 : Value} {l : List Pn} {tx : List UInt8} {s : Nat} (h : OutT w B ov l) (hk : Keeps ov.ownBlock.toList w w3) (ho : w3.ownsRow B 45 4 v3 (l.length + 1) (pnsCells l ++ [.string ⟨#[]⟩, .slice none 0 0, .string ⟨tx.toArray⟩, .slice none 0 0])) (hw : v3.ownBlock = ov.ownBlock ∨ v3.ownBlock = some s) (hs : w.heap.size ≤ s) :
    Laid1 w B ov l tx (.returned v3) w3 :=
  have hw2 : v3.ownBlock = ov.ownBlock ∨ ∃ g, v3.ownBlock = some g ∧ w.heap.size ≤ g := hw.imp id fun h => ⟨s, h, hs⟩
  ⟨v3, rfl, h.push (q := txP tx) hk ho hw2 ⟨rfl, .inl ⟨rfl, none, 0, rfl, by simp [maxLen]⟩⟩ (Ns.nil _ _ none 0 (by simp [maxLen])), hw2, hk⟩
set_option maxRecDepth 4000 in
set_option maxHeartbeats 4000000 in
theorem joinText_nil (B : Nat) (c : Nat) (o : Option Addr) (tx : List UInt8) (w : World) (h : OutT w B (.slice o 0 c) []) (hB : B ≤ w.heap.size) :
    Calls Tryz.prog 176 #[.slice o 0 c, txV tx] w fun e w' => Laid1 w B (.slice o 0 c) [] tx e w' := by
  obtain ⟨i0, hi, hz0, hz1, hz2⟩ := info_parts info79
  have hrow := hide h.row
  have HH := hide h
  unfold txV
  clear h
  go_enter Tryz.func176, Tryz.ntmps176
  go_wp2_with (at_builtin; refine wpList_append_own_at9 _ rfl _ _ 29 rfl B 45 i0 _ 4 80 Tryz.underlying29 hi hz0 hz1 hz2 (by kernel_rfl) (by decide) (.slice o 0 c) 0 [] rfl ((hrow.out.alloc _).alloc _) ⟨w.heap.size + 1, 0, none⟩ 1 1 [.string ⟨#[]⟩, .slice none 0 0, .string ⟨tx.toArray⟩, .slice none 0 0] rfl rfl (lit_two w #[.string ⟨#[]⟩, .slice none 0 0, .string ⟨tx.toArray⟩, .slice none 0 0] #[.string ⟨#[]⟩, .slice none 0 0, .string ⟨tx.toArray⟩, .slice none 0 0]) ?c2 ?c3 ?c4 ?c5 ?_)
  case c2 => first | (intro u hu; simp at hu; rcases hu with rfl | rfl | rfl | rfl <;> rfl) | exact ⟨rfl, rfl, rfl, rfl⟩
  case c3 => unfold maxLen; omega
  case c4 => omega
  case c5 => first | omega | (simp; omega)
  intro v3 w3 ho3 hg3 hw3
  have hk3 : Keeps ((.slice o 0 c) : Value).ownBlock.toList w w3 := (((Keeps.refl _ w).alloc _).alloc _).grown hg3 (fun i e => .inl (by simp [e]))
  have hfin := hide (laid1_of (tx := tx) HH.out hk3 ho3 hw3 (by omega))
  go_wp2_with fail
  go_ret
  exact hfin.out
set_option maxRecDepth 4000 in
set_option maxHeartbeats 4000000 in
theorem joinText_el (B : Nat) (c : Nat) (o : Option Addr) (l : List Pn) (q : Pn) (tx : List UInt8) (w : World) (h : OutT w B (.slice o (l.length + 1) c) (l ++ [q])) (hq : q.nd.name ≠ []) (hll : l.length ≤ 1000000) (hB : B ≤ w.heap.size) :
    Calls Tryz.prog 176 #[.slice o (l.length + 1) c, txV tx] w fun e w' => Laid1 w B (.slice o (l.length + 1) c) (l ++ [q]) tx e w' := by
  obtain ⟨i0, hi, hz0, hz1, hz2⟩ := info_parts info79
  have hrow := hide (show w.ownsRow B 45 4 (.slice o (l.length + 1) c) (l.length + 1) (pnsCells (l ++ [q])) from by simpa using h.row)
  have hli := Lies.of_row hrow.out
  obtain ⟨g, x, rfl, hcl⟩ := hli.addr (by omega)
  have a0 := (lies_pn (l := l ++ [q]) hcl l.length (by simp)).1
  simp only [List.getElem_append_right (Nat.le_refl _), Nat.sub_self, List.getElem_cons_zero] at a0
  have q0 : (q.nd.name == []) = false := by simpa using hq
  have q1 := (nameEq q.nd.name _).trans q0
  have hlt := cell_lt9 a0
  have b0 : ∀ o, (w.alloc o).cell? ⟨g, x + l.length * 4, none⟩ = some (.string ⟨q.nd.name.toArray⟩) := fun o => (cell_past (a := ⟨g, x + l.length * 4, none⟩) hlt o).trans a0
  have HH := hide h
  generalize q.nd.name = qn at a0 b0 q0 q1 hq
  unfold txV
  clear h hli hcl
  go_enter Tryz.func176, Tryz.ntmps176
  go_wp2_with (at_builtin; refine wpList_append_own_at9 _ rfl _ _ 29 rfl B 45 i0 _ 4 80 Tryz.underlying29 hi hz0 hz1 hz2 (by kernel_rfl) (by decide) (.slice (some ⟨g, x, none⟩) (l.length + 1) c) (l.length + 1) (pnsCells (l ++ [q])) rfl ((hrow.out.alloc _).alloc _) ⟨w.heap.size + 1, 0, none⟩ 1 1 [.string ⟨#[]⟩, .slice none 0 0, .string ⟨tx.toArray⟩, .slice none 0 0] rfl rfl (lit_two w #[.string ⟨#[]⟩, .slice none 0 0, .string ⟨tx.toArray⟩, .slice none 0 0] #[.string ⟨#[]⟩, .slice none 0 0, .string ⟨tx.toArray⟩, .slice none 0 0]) ?c2 ?c3 ?c4 ?c5 ?_)
  case c2 => first | (intro u hu; simp at hu; rcases hu with rfl | rfl | rfl | rfl <;> rfl) | exact ⟨rfl, rfl, rfl, rfl⟩
  case c3 => unfold maxLen; omega
  case c4 => omega
  case c5 => first | omega | (simp; omega)
  intro v3 w3 ho3 hg3 hw3
  have hk3 : Keeps ((.slice (some ⟨g, x, none⟩) (l.length + 1) c) : Value).ownBlock.toList w w3 := (((Keeps.refl _ w).alloc _).alloc _).grown hg3 (fun i e => .inl (by simp [e]))
  have hfin := hide (laid1_of (tx := tx) HH.out hk3 (by simpa using ho3) hw3 (by omega))
  go_wp2_with fail
  go_ret
  exact hfin.out
def txQ (q : Pn) (tx : List UInt8) : Pn := ⟨.mk q.nd.name q.nd.attrs (q.nd.text ++ tx) q.nd.kids, q.av, q.kv⟩
theorem pns_set (l : List Pn) (q : Pn) (tx : List UInt8) : (pnsCells (l ++ [q])).set (l.length * 4 + 2) (.string ⟨(q.nd.text ++ tx).toArray⟩) = pnsCells (l ++ [txQ q tx]) := by
  have e1 : ∀ p : Pn, pnsCells (l ++ [p]) = pnsCells l ++ pnCells p := fun p => by simp [pnsCells]
  rw [e1, e1, List.set_append_right _ _ (by rw [pnsCells_len]; omega), pnsCells_len, show l.length * 4 + 2 - l.length * 4 = 2 from by omega]
  obtain ⟨⟨n, a, t, k⟩, av, kv⟩ := q
  rfl
theorem empty_row (W : World) (B : Nat) (hB : B ≤ W.heap.size) : (W.alloc (.cells #[] 45)).ownsRow B 45 4 (.slice (some ⟨W.heap.size, 0, none⟩) 0 0) 0 [] :=
  ⟨rfl, .inr ⟨W.heap.size, 0, #[], rfl, hB, heap_alloc_new W _, Nat.le_refl _, Nat.zero_le _, rfl, rfl⟩⟩
def Laid2 (w : World) (B : Nat) (l : List Pn) (q : Pn) (tx : List UInt8) (e : Ending) (w' : World) : Prop :=
  ∃ v' g, e = .returned v' ∧ OutT w' B v' (l ++ [txQ q tx]) ∧ v'.ownBlock = some g ∧ w.heap.size ≤ g ∧ Keeps [] w w'
set_option maxRecDepth 4000 in
set_option maxHeartbeats 4000000 in
theorem joinText_tx (B : Nat) (c : Nat) (o : Option Addr) (l : List Pn) (q : Pn) (tx : List UInt8) (w : World) (h : OutT w B (.slice o (l.length + 1) c) (l ++ [q])) (hq : q.nd.name = []) (hll : l.length ≤ 1000000) (hB : B ≤ w.heap.size) (hqt : q.nd.text.length + tx.length ≤ 1000000000) :
    Calls Tryz.prog 176 #[.slice o (l.length + 1) c, txV tx] w fun e w' => Laid2 w B l q tx e w' := by
  obtain ⟨i0, hi, hz0, hz1, hz2⟩ := info_parts info79
  have hrow := hide (show w.ownsRow B 45 4 (.slice o (l.length + 1) c) (l.length + 1) (pnsCells (l ++ [q])) from by simpa using h.row)
  have hli := Lies.of_row hrow.out
  obtain ⟨g, x, rfl, hcl⟩ := hli.addr (by omega)
  have a0 := (lies_pn (l := l ++ [q]) hcl l.length (by simp)).1
  simp only [List.getElem_append_right (Nat.le_refl _), Nat.sub_self, List.getElem_cons_zero] at a0
  rw [hq] at a0
  have hlt := cell_lt9 a0
  have b0 : ∀ o, (w.alloc o).cell? ⟨g, x + l.length * 4, none⟩ = some (.string ⟨([] : List UInt8).toArray⟩) := fun o => (cell_past (a := ⟨g, x + l.length * 4, none⟩) hlt o).trans a0
  have HH := hide h
  have hone : ∀ u ∈ pnsCells (l ++ [q]), u.oneCell' = true := pns_one _ (fun p hp => ⟨by obtain ⟨o, c, h9⟩ := (h.done p hp).1.form; exact ⟨_, _, _, h9⟩, by obtain ⟨o, c, h9⟩ := (h.done p hp).2.form; exact ⟨_, _, _, h9⟩⟩)
  unfold txV
  clear h hli
  have HCL := hide hcl
  clear hcl
  have her := hide (empty_row (w.alloc (.cells #[.string ⟨#[]⟩, .slice none 0 0, .string ⟨tx.toArray⟩, .slice none 0 0] 45)) (w.heap.size + 1) (by simp))
  go_enter Tryz.func176, Tryz.ntmps176
  go_wp2_with (at_builtin; refine wpList_append_own_at9 _ rfl _ _ 29 rfl (w.heap.size + 1) 45 i0 _ 4 80 Tryz.underlying29 hi hz0 hz1 hz2 (by kernel_rfl) (by decide) (.slice (some ⟨w.heap.size + 1, 0, none⟩) 0 0) 0 [] rfl (by have h9 := her.out; simpa using h9) ⟨g, x, none⟩ (l.length + 1) c (pnsCells (l ++ [q])) rfl (by rw [pnsCells_len]; simp) ?c1 ?c2 ?c3 ?c4 ?c5 ?_)
  case c1 => exact HCL.out
  case c2 => exact hone
  case c3 => unfold maxLen; omega
  case c4 => omega
  intro v3 w3 ho3 hg3 hw3
  try simp only [Nat.zero_add, List.nil_append] at ho3
  have hk3 : Keeps [w.heap.size + 1] ((w.alloc (.cells #[.string ⟨#[]⟩, .slice none 0 0, .string ⟨tx.toArray⟩, .slice none 0 0] 45)).alloc (.cells #[] 45)) w3 := (Keeps.refl _ _).grown hg3 (fun i e => .inl (by simp [Value.ownBlock] at e ⊢; exact e.symm))
  obtain ⟨g3, c3, rfl, hge3, hb3⟩ : ∃ g3 c3, v3 = .slice (some ⟨g3, 0, none⟩) (l.length + 1) c3 ∧ w.heap.size + 1 ≤ g3 ∧ ∃ cur, w3.heap[g3]? = some (.cells cur 45 (0, 0)) := by
    rcases ho3.2 with ⟨_, h0⟩ | ⟨g, cap, cur, e, hb, hc, _⟩
    · omega
    · exact ⟨g, cap, e, hb, cur, hc⟩
  obtain ⟨cur, hb3⟩ := hb3
  obtain ⟨g', x', hgx, hc3⟩ := (Lies.of_row ho3).addr (by omega)
  cases hgx
  have r2 := (lies_pn (l := l ++ [q]) hc3 l.length (by simp)).2.2.1
  simp only [List.getElem_append_right (Nat.le_refl _), Nat.sub_self, List.getElem_cons_zero, Nat.zero_add] at r2
  have f2 : w3.frozen? ⟨g3, l.length * 4 + 2, none⟩ = false := free_blk hb3 _
  have x2 : w3.cell? ⟨w.heap.size, 2, none⟩ = some (.string ⟨tx.toArray⟩) := cell_keepsS hk3 (a := ⟨w.heap.size, 2, none⟩) (by simp) ((cell_past (a := ⟨w.heap.size, 2, none⟩) (by simp) _).trans (cell_blk (heap_alloc_new w _) 2))
  have hst := (ho3.stored (l.length * 4 + 2) (.string ⟨(q.nd.text ++ tx).toArray⟩)).1
  rw [pns_set] at hst
  have hgl : w3.heap.size > g3 := lt_of_block hb3
  have HST := hide hst
  have HK3 := hide hk3
  have hcat : (⟨q.nd.text.toArray⟩ : ByteArray) ++ ⟨tx.toArray⟩ = ⟨(q.nd.text ++ tx).toArray⟩ := by apply WideShapes.bytes_inj; simp
  clear hst hk3 hc3 hg3 hw3 ho3 hb3 her
  have hss : ¬ 9223372036854775807 < (⟨q.nd.text.toArray⟩ : ByteArray).size + (⟨tx.toArray⟩ : ByteArray).size := by rw [str_size, str_size]; omega
  go_wp2_with fail
  go_region
  go_wp2_with fail
  go_ret
  have hk0 : Keeps [] w ((w.alloc (.cells #[.string ⟨#[]⟩, .slice none 0 0, .string ⟨tx.toArray⟩, .slice none 0 0] 45)).alloc (.cells #[] 45)) := ((Keeps.refl [] w).alloc _).alloc _
  have hk4 : Keeps [] w w3 := keeps_on hk0 HK3.out (fun g hg hlt => by simp at hg; omega)
  have hk5 : Keeps [] w (w3.setCell ⟨g3, l.length * 4 + 2, none⟩ (.string ⟨(q.nd.text ++ tx).toArray⟩)) := keeps_on hk4 ((Keeps.refl [g3] w3).setCell (.inl (by simp)) _) (fun g hg hlt => by simp at hg; omega)
  have hkf := hk5.drew
  have hrw := HST.out.drew
  have hD := HH.out.done
  generalize (w3.setCell ⟨g3, l.length * 4 + 2, none⟩ (.string ⟨(q.nd.text ++ tx).toArray⟩)).drew = w4 at *
  have hT : ∀ b, b < w.heap.size → b ∈ (Value.slice (some ⟨g3, 0, none⟩) (l.length + 1) c3).ownBlock.toList → b ∈ (Value.slice (some ⟨g, x, none⟩) (l.length + 1) c).ownBlock.toList := fun b hg hm => by simp [Value.ownBlock] at hm; omega
  refine ⟨.slice (some ⟨g3, 0, none⟩) (l.length + 1) c3, g3, rfl, ⟨?_, fun p hp => ?_⟩, rfl, by omega, hkf⟩
  · rw [List.length_append, List.length_singleton]
    exact hrw.mono (by omega)
  · rcases List.mem_append.1 hp with hp | hp
    · exact ⟨(hD p (by simp [hp])).1.move hkf (fun _ h => by simp at h) hT, (hD p (by simp [hp])).2.move hkf (fun _ h => by simp at h) hT⟩
    · simp at hp
      subst hp
      exact ⟨(hD q (by simp)).1.move hkf (fun _ h => by simp at h) hT, (hD q (by simp)).2.move hkf (fun _ h => by simp at h) hT⟩
def pageL : List Nd := [.mk [112] [] [] [.mk [] [] [97] [], .mk [98, 114] [] [] []], .mk [117, 108] [] [] [.mk [108, 105] [] [] [.mk [] [] [98] []], .mk [108, 105] [] [] [.mk [] [] [99] []]]]
theorem page_fitsW : walkL fitsF pageL pageL 0 [] 0 = (8, true) := by
  simp [pageL, walkL, fitsF, wrap64]
theorem page_nodeW : walkL nodeF pageL pageL 0 [] 0 = (0, true) := by
  simp only [pageL, walkL, nodeF, List.nil_append, List.cons_append]
  kernel_rfl
theorem page_tree : chkTree pageL = 0 := by
  unfold chkTree
  rw [page_fitsW, page_nodeW]
  rfl
theorem page_size : sizeNs pageL = 8 := by simp [pageL, sizeNs]
theorem ns_new (w : World) (l : List Pn) (cs : Array Value) (hcs : cs.toList = pnsCells l) (hn : l.length ≤ maxLen) (ha : ∀ p ∈ l, p.av = .slice none 0 0 ∧ p.nd.attrs = []) (hk : ∀ p ∈ l, Ns w (fun _ => True) p.kv p.nd.kids) :
    Ns (w.alloc (.cells cs 45)) (fun _ => True) (.slice (some ⟨w.heap.size, 0, none⟩) l.length l.length) (l.map Pn.nd) := by
  refine .mk _ l _ rfl ⟨pnsCells_len l, .inr ⟨w.heap.size, 0, l.length, rfl, Nat.le_refl _, hn, by simp, trivial, fun j u hj => ?_⟩⟩ (fun p hp => ?_) (fun p hp => (hk p hp).keeps0 ((Keeps.refl [] w).alloc _))
  · rw [← hcs] at hj
    have := lit_cells w cs 45 j u hj
    rw [add_zero] at this
    rw [Nat.zero_add]
    exact this
  · rw [(ha p hp).1, (ha p hp).2]
    exact ⟨rfl, .inl ⟨rfl, none, 0, rfl, by simp [maxLen]⟩⟩
theorem nil_ns (w : World) : Ns w (fun _ => True) (.slice none 0 0) [] := Ns.nil _ _ none 0 (by simp [maxLen])
set_option maxRecDepth 8000 in
set_option maxHeartbeats 4000000 in
theorem page_any (w : World) : Calls Tryz.prog 70 #[] w fun e w' => ∃ v, e = .returned v ∧ Ns w' (fun _ => True) v pageL ∧ Keeps [] w w' := by
  have n0 := ns_new w [⟨.mk [] [] [97] [], .slice none 0 0, .slice none 0 0⟩, ⟨.mk [98, 114] [] [] [], .slice none 0 0, .slice none 0 0⟩] #[.string ⟨#[]⟩, .slice none 0 0, .string ⟨#[97]⟩, .slice none 0 0, .string ⟨#[98, 114]⟩, .slice none 0 0, .string ⟨#[]⟩, .slice none 0 0] rfl (by simp [maxLen]) (by intro p hp; simp at hp; rcases hp with rfl | rfl <;> exact ⟨rfl, rfl⟩) (by intro p hp; simp at hp; rcases hp with rfl | rfl <;> exact nil_ns _)
  obtain ⟨w1, hw1⟩ : ∃ w1, w.alloc (.cells #[.string ⟨#[]⟩, .slice none 0 0, .string ⟨#[97]⟩, .slice none 0 0, .string ⟨#[98, 114]⟩, .slice none 0 0, .string ⟨#[]⟩, .slice none 0 0] 45) = w1 := ⟨_, rfl⟩
  have s1 : w1.heap.size = w.heap.size + 1 := by rw [← hw1]; simp
  have q1 : Keeps [] w w1 := by rw [← hw1]; exact (Keeps.refl [] w).alloc _
  rw [hw1] at n0
  have n1 := ns_new w1 [⟨.mk [] [] [98] [], .slice none 0 0, .slice none 0 0⟩] #[.string ⟨#[]⟩, .slice none 0 0, .string ⟨#[98]⟩, .slice none 0 0] rfl (by decide) (by intro p hp; simp at hp; subst hp; exact ⟨rfl, rfl⟩) (by intro p hp; simp at hp; subst hp; exact nil_ns _)
  obtain ⟨w2, hw2⟩ : ∃ w2, w1.alloc (.cells #[.string ⟨#[]⟩, .slice none 0 0, .string ⟨#[98]⟩, .slice none 0 0] 45) = w2 := ⟨_, rfl⟩
  have s2 : w2.heap.size = w.heap.size + 2 := by rw [← hw2]; simp [s1]
  have q2 : Keeps [] w1 w2 := by rw [← hw2]; exact (Keeps.refl [] w1).alloc _
  rw [hw2, s1] at n1
  have n2 := ns_new w2 [⟨.mk [] [] [99] [], .slice none 0 0, .slice none 0 0⟩] #[.string ⟨#[]⟩, .slice none 0 0, .string ⟨#[99]⟩, .slice none 0 0] rfl (by decide) (by intro p hp; simp at hp; subst hp; exact ⟨rfl, rfl⟩) (by intro p hp; simp at hp; subst hp; exact nil_ns _)
  obtain ⟨w3, hw3⟩ : ∃ w3, w2.alloc (.cells #[.string ⟨#[]⟩, .slice none 0 0, .string ⟨#[99]⟩, .slice none 0 0] 45) = w3 := ⟨_, rfl⟩
  have s3 : w3.heap.size = w.heap.size + 3 := by rw [← hw3]; simp [s2]
  have q3 : Keeps [] w2 w3 := by rw [← hw3]; exact (Keeps.refl [] w2).alloc _
  rw [hw3, s2] at n2
  have n3 := ns_new w3 [⟨.mk [108, 105] [] [] [.mk [] [] [98] []], .slice none 0 0, .slice (some ⟨w.heap.size + 1, 0, none⟩) 1 1⟩, ⟨.mk [108, 105] [] [] [.mk [] [] [99] []], .slice none 0 0, .slice (some ⟨w.heap.size + 2, 0, none⟩) 1 1⟩] #[.string ⟨#[108, 105]⟩, .slice none 0 0, .string ⟨#[]⟩, .slice (some ⟨w.heap.size + 1, 0, none⟩) 1 1, .string ⟨#[108, 105]⟩, .slice none 0 0, .string ⟨#[]⟩, .slice (some ⟨w.heap.size + 2, 0, none⟩) 1 1] rfl (by simp [maxLen]) (by intro p hp; simp at hp; rcases hp with rfl | rfl <;> exact ⟨rfl, rfl⟩) (by
    intro p hp; simp at hp
    rcases hp with rfl | rfl
    · exact n1.keeps0 q3
    · exact n2)
  obtain ⟨w4, hw4⟩ : ∃ w4, w3.alloc (.cells #[.string ⟨#[108, 105]⟩, .slice none 0 0, .string ⟨#[]⟩, .slice (some ⟨w.heap.size + 1, 0, none⟩) 1 1, .string ⟨#[108, 105]⟩, .slice none 0 0, .string ⟨#[]⟩, .slice (some ⟨w.heap.size + 2, 0, none⟩) 1 1] 45) = w4 := ⟨_, rfl⟩
  have s4 : w4.heap.size = w.heap.size + 4 := by rw [← hw4]; simp [s3]
  have q4 : Keeps [] w3 w4 := by rw [← hw4]; exact (Keeps.refl [] w3).alloc _
  rw [hw4, s3] at n3
  have n4 := ns_new w4 [⟨.mk [112] [] [] [.mk [] [] [97] [], .mk [98, 114] [] [] []], .slice none 0 0, .slice (some ⟨w.heap.size, 0, none⟩) 2 2⟩, ⟨.mk [117, 108] [] [] [.mk [108, 105] [] [] [.mk [] [] [98] []], .mk [108, 105] [] [] [.mk [] [] [99] []]], .slice none 0 0, .slice (some ⟨w.heap.size + 3, 0, none⟩) 2 2⟩] #[.string ⟨#[112]⟩, .slice none 0 0, .string ⟨#[]⟩, .slice (some ⟨w.heap.size, 0, none⟩) 2 2, .string ⟨#[117, 108]⟩, .slice none 0 0, .string ⟨#[]⟩, .slice (some ⟨w.heap.size + 3, 0, none⟩) 2 2] rfl (by simp [maxLen]) (by intro p hp; simp at hp; rcases hp with rfl | rfl <;> exact ⟨rfl, rfl⟩) (by
    intro p hp; simp at hp
    rcases hp with rfl | rfl
    · exact n0.keeps0 ((q2.trans q3).trans q4)
    · exact n3)
  rw [s4] at n4
  have qq : Keeps [] w (w4.alloc (.cells #[.string ⟨#[112]⟩, .slice none 0 0, .string ⟨#[]⟩, .slice (some ⟨w.heap.size, 0, none⟩) 2 2, .string ⟨#[117, 108]⟩, .slice none 0 0, .string ⟨#[]⟩, .slice (some ⟨w.heap.size + 3, 0, none⟩) 2 2] 45)) := (((q1.trans q2).trans q3).trans q4).alloc _
  have hH : Hid (w.alloc (.cells #[.string ⟨#[]⟩, .slice none 0 0, .string ⟨#[97]⟩, .slice none 0 0, .string ⟨#[98, 114]⟩, .slice none 0 0, .string ⟨#[]⟩, .slice none 0 0] 45) = w1 ∧ w1.alloc (.cells #[.string ⟨#[]⟩, .slice none 0 0, .string ⟨#[98]⟩, .slice none 0 0] 45) = w2 ∧ w2.alloc (.cells #[.string ⟨#[]⟩, .slice none 0 0, .string ⟨#[99]⟩, .slice none 0 0] 45) = w3 ∧ w3.alloc (.cells #[.string ⟨#[108, 105]⟩, .slice none 0 0, .string ⟨#[]⟩, .slice (some ⟨w.heap.size + 1, 0, none⟩) 1 1, .string ⟨#[108, 105]⟩, .slice none 0 0, .string ⟨#[]⟩, .slice (some ⟨w.heap.size + 2, 0, none⟩) 1 1] 45) = w4) := ⟨hw1, hw2, hw3, hw4⟩
  clear hw1 hw2 hw3 hw4 s1 s2 s3 s4
  go_enter Tryz.func70, Tryz.ntmps70
  go_wp2_with fail
  rw [hH.out.1, hH.out.2.1, hH.out.2.2.1, hH.out.2.2.2]
  go_ret
  exact ⟨_, rfl, n4, qq⟩
theorem page_fits : FitsNs pageL := by
  simp [pageL, FitsNs, Fits, maxLen]
theorem HasMax.pos {w : World} (h : HasMax w) : 0 < w.heap.size := by
  unfold HasMax World.cell? at h
  rcases Nat.eq_zero_or_pos w.heap.size with h0 | h0
  · rw [Array.getElem?_eq_none (by simp [h0])] at h
    simp at h
  · exact h0
end Go.Proofs.YtlcljanibjdejaaGreat
namespace Go.Proofs.YtlcljanibjdejaaGreat
open Go.RowKit
def Rt : List (List UInt8) → Bool → List Nd → Prop
  | _, _, [] => True
  | ar, prev, .mk n a t k :: r =>
    if n = [] then t ≠ [] ∧ a = [] ∧ k = [] ∧ prev = false ∧ Rt ar true r
    else isNameL n = true ∧ t = [] ∧ chkA a [] = 0 ∧ (emptyN n = true → k = []) ∧ ar.length ≤ closedL ar n ∧ ar.length < 8 ∧ Rt (ar ++ [n]) false k ∧ Rt ar false r
theorem Rt_text (ar : List (List UInt8)) (prev : Bool) (n : Nd) (r : List Nd) (h : n.name = []) : Rt ar prev (n :: r) ↔ n.text ≠ [] ∧ n.attrs = [] ∧ n.kids = [] ∧ prev = false ∧ Rt ar true r := by
  obtain ⟨m, a, t, k⟩ := n
  have h : m = [] := h
  rw [Rt, if_pos h]
  rfl
theorem Rt_el (ar : List (List UInt8)) (prev : Bool) (n : Nd) (r : List Nd) (h : n.name ≠ []) : Rt ar prev (n :: r) ↔ isNameL n.name = true ∧ n.text = [] ∧ chkA n.attrs [] = 0 ∧ (emptyN n.name = true → n.kids = []) ∧ ar.length ≤ closedL ar n.name ∧ ar.length < 8 ∧ Rt (ar ++ [n.name]) false n.kids ∧ Rt ar false r := by
  obtain ⟨m, a, t, k⟩ := n
  have h : m ≠ [] := h
  rw [Rt, if_neg h]
  rfl
theorem Rt_nil (ar : List (List UInt8)) (prev : Bool) : Rt ar prev [] := by rw [Rt]; trivial
theorem name_some {n : List UInt8} (h : isNameL n = true) : n ≠ [] := by
  rintro rfl
  simp [isNameL] at h
def ElOk (ar : List (List UInt8)) (n : Nd) : Prop := isNameL n.name = true ∧ n.text = [] ∧ chkA n.attrs [] = 0 ∧ (emptyN n.name = true → n.kids = []) ∧ ar.length ≤ closedL ar n.name ∧ ar.length < 8 ∧ Rt (ar ++ [n.name]) false n.kids
def endsText (l : List Nd) : Bool := l.getLast?.map Nd.name == some []
theorem Rt_snoc_el : ∀ (l : List Nd) (ar : List (List UInt8)) (prev : Bool) (n : Nd), Rt ar prev l → ElOk ar n → Rt ar prev (l ++ [n])
  | [], ar, prev, n, _, h => (Rt_el ar prev n [] (name_some h.1)).2 ⟨h.1, h.2.1, h.2.2.1, h.2.2.2.1, h.2.2.2.2.1, h.2.2.2.2.2.1, h.2.2.2.2.2.2, Rt_nil _ _⟩
  | m :: l, ar, prev, n, hl, h => by
    rw [List.cons_append]
    by_cases hm : m.name = []
    · rw [Rt_text _ _ _ _ hm] at hl ⊢
      exact ⟨hl.1, hl.2.1, hl.2.2.1, hl.2.2.2.1, Rt_snoc_el l ar true n hl.2.2.2.2 h⟩
    · rw [Rt_el _ _ _ _ hm] at hl ⊢
      obtain ⟨h1, h2, h3, h4, h5, h6, h7, h8⟩ := hl
      exact ⟨h1, h2, h3, h4, h5, h6, h7, Rt_snoc_el l ar false n h8 h⟩
theorem endsText_cons (m n : Nd) (l : List Nd) : endsText (m :: n :: l) = endsText (n :: l) := by simp [endsText]
theorem Rt_snoc_text : ∀ (l : List Nd) (ar : List (List UInt8)) (prev : Bool) (t : List UInt8), Rt ar prev l → t ≠ [] → (l = [] → prev = false) → endsText l = false → Rt ar prev (l ++ [textN t])
  | [], ar, prev, t, _, ht, hp, _ => (Rt_text ar prev (textN t) [] rfl).2 ⟨ht, rfl, rfl, hp rfl, Rt_nil _ _⟩
  | m :: l, ar, prev, t, hl, ht, _, he => by
    rw [List.cons_append]
    have he2 : l ≠ [] → endsText l = false := fun h => by
      cases l with
      | nil => exact absurd rfl h
      | cons n l => rwa [endsText_cons] at he
    have he3 : endsText l = false := by
      cases l with
      | nil => rfl
      | cons n l => exact he2 (by simp)
    by_cases hm : m.name = []
    · rw [Rt_text _ _ _ _ hm] at hl ⊢
      refine ⟨hl.1, hl.2.1, hl.2.2.1, hl.2.2.2.1, Rt_snoc_text l ar true t hl.2.2.2.2 ht (fun h => ?_) he3⟩
      subst h
      simp [endsText, hm] at he
    · rw [Rt_el _ _ _ _ hm] at hl ⊢
      obtain ⟨h1, h2, h3, h4, h5, h6, h7, h8⟩ := hl
      exact ⟨h1, h2, h3, h4, h5, h6, h7, Rt_snoc_text l ar false t h8 ht (fun _ => rfl) he3⟩
theorem endsText_snoc (l : List Nd) (n : Nd) : endsText (l ++ [n]) = (n.name == []) := by simp [endsText]
theorem getElem_mid {α : Type} (pre : List α) (n : α) (r : List α) : (pre ++ n :: r)[pre.length]? = some n := by simp
theorem prev_mid (pre : List Nd) (r : List Nd) : prevText (pre ++ r) pre.length = endsText pre := by
  unfold prevText endsText
  rcases List.eq_nil_or_concat pre with rfl | ⟨l, m, rfl⟩
  · rfl
  · simp [List.concat_eq_append]
theorem chk_one (n : List UInt8) (a : List Pair) (t : List UInt8) : chkL [⟨2, n, a, t⟩] = if t ≠ [] ∨ isNameL n = false then 1 else chkA a [] := by
  simp only [chkL, chkFrom, chkT]
  simp
  split <;> simp_all
def Rn : List (List UInt8) → Bool → List Nd → Prop
  | _, _, [] => True
  | ar, prev, .mk n a t k :: r =>
    if n = [] then t ≠ [] ∧ a = [] ∧ k = [] ∧ prev = false ∧ Rn ar true r
    else isNameL n = true ∧ t = [] ∧ chkA a [] = 0 ∧ (emptyN n = true → k = []) ∧ ar.length ≤ closedL ar n ∧ Rn (ar ++ [n]) false k ∧ Rn ar false r
theorem Rn_nil (ar : List (List UInt8)) (prev : Bool) : Rn ar prev [] := by rw [Rn]; trivial
theorem nodeF_walk : ∀ (r pre : List Nd) (ar : List Nd), ((walkL nodeF (pre ++ r) r pre.length ar 0) = (0, true) ∧ Rn (ar.map Nd.name) (endsText pre) r) ∨ ((walkL nodeF (pre ++ r) r pre.length ar 0).2 = false ∧ (walkL nodeF (pre ++ r) r pre.length ar 0).1 ≠ 0 ∧ ¬ Rn (ar.map Nd.name) (endsText pre) r)
  | [], pre, ar => .inl ⟨by rw [walkL], Rn_nil _ _⟩
  | .mk n a t k :: r, pre, ar => by
    have ihk := nodeF_walk k [] (ar ++ [.mk n a t k])
    have ihr := nodeF_walk r (pre ++ [.mk n a t k]) ar
    simp only [List.append_assoc, List.singleton_append, List.length_append, List.length_singleton, List.nil_append, List.length_nil, endsText_snoc, List.map_append, List.map_cons, List.map_nil] at ihk ihr
    have hk0 : endsText ([] : List Nd) = false := rfl
    rw [hk0] at ihk
    have hchk : chkNode (pre ++ .mk n a t k :: r) pre.length ar = chkNodeOf (.mk n a t k) (pre ++ .mk n a t k :: r) pre.length ar := by unfold chkNode; rw [getElem_mid]
    rw [walkL]
    have hR : Rn (ar.map Nd.name) (endsText pre) (.mk n a t k :: r) ↔ if n = [] then t ≠ [] ∧ a = [] ∧ k = [] ∧ endsText pre = false ∧ Rn (ar.map Nd.name) true r else isNameL n = true ∧ t = [] ∧ chkA a [] = 0 ∧ (emptyN n = true → k = []) ∧ (ar.map Nd.name).length ≤ closedL (ar.map Nd.name) n ∧ Rn (ar.map Nd.name ++ [n]) false k ∧ Rn (ar.map Nd.name) false r := by rw [Rn]
    rw [hR]
    clear hR
    simp only [nodeF, hchk]
    by_cases hn : n = []
    · subst hn
      have hcn : chkNodeOf (.mk [] a t k) (pre ++ .mk [] a t k :: r) pre.length ar = chkTextOf t a k (endsText pre) := by
        simp only [chkNodeOf, Nd.name, List.isEmpty_nil, if_true, chkText]
        rw [getElem_mid, prev_mid]
        rfl
      rw [hcn, if_pos rfl]
      have hname : (Nd.name (.mk [] a t k) == []) = true := rfl
      rw [hname] at ihr
      by_cases hbad : t.isEmpty = true ∨ 0 < a.length ∨ 0 < k.length
      · right
        rw [show chkTextOf t a k (endsText pre) = 1 from by unfold chkTextOf; rw [if_pos hbad]]
        refine ⟨rfl, by simp, fun h => ?_⟩
        rcases hbad with h1 | h1 | h1
        · simp at h1; exact h.1 h1
        · rw [h.2.1] at h1; simp at h1
        · rw [h.2.2.1] at h1; simp at h1
      · have hb2 : t ≠ [] ∧ a = [] ∧ k = [] := by
          simp only [not_or, List.isEmpty_iff] at hbad
          exact ⟨hbad.1, List.eq_nil_of_length_eq_zero (by omega), List.eq_nil_of_length_eq_zero (by omega)⟩
        obtain ⟨ht, rfl, rfl⟩ := hb2
        cases hp : endsText pre
        · rw [show chkTextOf t [] [] false = 0 from by unfold chkTextOf; rw [if_neg hbad, if_neg (by simp)]]
          have hw : walkL nodeF [] [] 0 (ar ++ [.mk [] [] t []]) 0 = (0, true) := by rw [walkL]
          simp only [hw, beq_self_eq_true, if_true]
          rcases ihr with ⟨h1, h2⟩ | ⟨h1, h2, h3⟩
          · exact .inl ⟨h1, ht, trivial, trivial, trivial, h2⟩
          · exact .inr ⟨h1, h2, fun h => h3 h.2.2.2.2⟩
        · rw [show chkTextOf t [] [] true = 4 from by unfold chkTextOf; rw [if_neg hbad, if_pos rfl]]
          exact .inr ⟨rfl, by simp, fun h => by simp at h⟩
    · have hie : n.isEmpty = false := by simpa using hn
      have hname : (Nd.name (.mk n a t k) == []) = false := by simpa [Nd.name] using hn
      rw [hname] at ihr
      have hnm : Nd.name (.mk n a t k) = n := rfl
      rw [hnm] at ihk
      have hcn : chkNodeOf (.mk n a t k) (pre ++ .mk n a t k :: r) pre.length ar = if (emptyN n && decide (0 < k.length)) = true then 1 else if (if t ≠ [] ∨ isNameL n = false then 1 else chkA a []) ≠ 0 then (if t ≠ [] ∨ isNameL n = false then 1 else chkA a []) else if closedL (ar.map Nd.name) n < ar.length then 4 else 0 := by
        unfold chkNodeOf
        simp only [Nd.name, Nd.attrs, Nd.text, Nd.kids, hie, chk_one]
        rfl
      rw [hcn, if_neg hn]
      by_cases h1 : (emptyN n && decide (0 < k.length)) = true
      · right
        rw [if_pos h1]
        refine ⟨rfl, by simp, fun h => ?_⟩
        simp at h1
        have := h.2.2.2.1 h1.1
        rw [this] at h1
        simp at h1
      · rw [if_neg h1]
        have h1' : emptyN n = true → k = [] := fun h => by
          simp [h] at h1
          exact h1
        by_cases h2 : t ≠ [] ∨ isNameL n = false
        · right
          rw [if_pos h2]
          refine ⟨rfl, by simp, fun h => ?_⟩
          rcases h2 with h2 | h2
          · exact h2 h.2.1
          · rw [h.1] at h2; simp at h2
        · rw [if_neg h2]
          have h2' : t = [] ∧ isNameL n = true := by
            simp only [not_or, Decidable.not_not, Bool.not_eq_false] at h2
            exact h2
          by_cases h3 : chkA a [] ≠ 0
          · right
            rw [if_pos h3]
            have hb : (chkA a [] == 0) = false := by simpa using h3
            rw [hb]
            exact ⟨rfl, h3, fun h => h3 h.2.2.1⟩
          · rw [if_neg h3]
            have h3' : chkA a [] = 0 := Decidable.not_not.1 h3
            by_cases h4 : closedL (ar.map Nd.name) n < ar.length
            · right
              rw [if_pos h4]
              refine ⟨rfl, by simp, fun h => ?_⟩
              have := h.2.2.2.2.1
              rw [List.length_map] at this
              omega
            · rw [if_neg h4]
              simp only [beq_self_eq_true, if_true]
              rcases ihk with ⟨k1, k2⟩ | ⟨k1, k2, k3⟩
              · rw [k1]
                simp only [if_true]
                rcases ihr with ⟨r1, r2⟩ | ⟨r1, r2, r3⟩
                · exact .inl ⟨r1, h2'.2, h2'.1, h3', h1', by rw [List.length_map]; omega, k2, r2⟩
                · exact .inr ⟨r1, r2, fun h => r3 h.2.2.2.2.2.2⟩
              · rw [if_neg (by rw [k1]; simp)]
                exact .inr ⟨rfl, k2, fun h => k3 h.2.2.2.2.2.1⟩
def Dp : Nat → List Nd → Prop
  | _, [] => True
  | d, .mk n _ _ k :: r => (n = [] ∨ d < 8) ∧ Dp (d + 1) k ∧ Dp d r
theorem Dp_nil (d : Nat) : Dp d [] := by rw [Dp]; trivial
theorem fitsF_walk : ∀ (r pre : List Nd) (ar : List Nd) (c : Nat), c ≤ 3000 → ((walkL fitsF (pre ++ r) r pre.length ar c) = (((c + sizeNs r : Nat) : Int), true) ∧ c + sizeNs r ≤ 3000 ∧ Dp ar.length r) ∨ ((walkL fitsF (pre ++ r) r pre.length ar c).2 = false ∧ ¬ (c + sizeNs r ≤ 3000 ∧ Dp ar.length r))
  | [], pre, ar, c, h => .inl ⟨by rw [walkL]; simp [sizeNs], by simpa [sizeNs] using h, Dp_nil _⟩
  | .mk n a t k :: r, pre, ar, c, h => by
    rw [walkL]
    have hR : Dp ar.length (.mk n a t k :: r) ↔ (n = [] ∨ ar.length < 8) ∧ Dp (ar.length + 1) k ∧ Dp ar.length r := by rw [Dp]
    have hS : sizeNs (.mk n a t k :: r) = 1 + sizeNs k + sizeNs r := by rw [sizeNs]
    rw [hR, hS]
    clear hR hS
    have hw : wrap64 ((c : Int) + 1) = ((c + 1 : Nat) : Int) := by unfold wrap64; omega
    have hf : fitsF c (pre ++ .mk n a t k :: r) pre.length ar = (((c + 1 : Nat) : Int), decide (((c + 1 : Nat) : Int) ≤ 3000) && ((n == []) || decide (ar.length < 8))) := by
      unfold fitsF
      rw [hw, getElem_mid]
      rfl
    rw [hf]
    by_cases h1 : c + 1 ≤ 3000
    · rw [show decide (((c + 1 : Nat) : Int) ≤ 3000) = true from decide_eq_true (by omega)]
      by_cases h2 : n = [] ∨ ar.length < 8
      · have hb : (true && ((n == []) || decide (ar.length < 8))) = true := by
          rcases h2 with rfl | h2
          · rfl
          · simp [h2]
        rw [hb]
        simp only [if_true]
        have ihk := fitsF_walk k [] (ar ++ [.mk n a t k]) (c + 1) h1
        simp only [List.nil_append, List.length_nil, List.length_append, List.length_singleton] at ihk
        rcases ihk with ⟨k1, k2, k3⟩ | ⟨k1, k2⟩
        · rw [k1]
          simp only [if_true]
          have ihr := fitsF_walk r (pre ++ [.mk n a t k]) ar (c + 1 + sizeNs k) k2
          simp only [List.append_assoc, List.singleton_append, List.length_append, List.length_singleton] at ihr
          rcases ihr with ⟨r1, r2, r3⟩ | ⟨r1, r2⟩
          · exact .inl ⟨by rw [r1, show c + 1 + sizeNs k + sizeNs r = c + (1 + sizeNs k + sizeNs r) from by omega], by omega, h2, k3, r3⟩
          · exact .inr ⟨r1, fun h => r2 ⟨by omega, h.2.2.2⟩⟩
        · rw [if_neg (by rw [k1]; simp)]
          exact .inr ⟨rfl, fun h => k2 ⟨by omega, h.2.2.1⟩⟩
      · have hb : (true && ((n == []) || decide (ar.length < 8))) = false := by
          rw [not_or] at h2
          simp [h2.1]
          omega
        rw [hb]
        exact .inr ⟨rfl, fun h => h2 h.2.1⟩
    · rw [show decide (((c + 1 : Nat) : Int) ≤ 3000) = false from decide_eq_false (by omega)]
      exact .inr ⟨rfl, fun h => by omega⟩
theorem Rt_iff : ∀ (r : List Nd) (ar : List (List UInt8)) (prev : Bool), Rt ar prev r ↔ Rn ar prev r ∧ Dp ar.length r
  | [], _, _ => ⟨fun _ => ⟨Rn_nil _ _, Dp_nil _⟩, fun _ => Rt_nil _ _⟩
  | .mk n a t k :: r, ar, prev => by
    have i1 := Rt_iff r ar true
    have i2 := Rt_iff r ar false
    have i3 := Rt_iff k (ar ++ [n]) false
    rw [List.length_append, List.length_singleton] at i3
    rw [Rt, Rn, Dp, i1, i2, i3]
    by_cases hn : n = []
    · simp only [if_pos hn]
      constructor
      · rintro ⟨h1, h2, rfl, h4, h5, h6⟩
        exact ⟨⟨h1, h2, rfl, h4, h5⟩, .inl hn, Dp_nil _, h6⟩
      · rintro ⟨⟨h1, h2, rfl, h4, h5⟩, _, _, h6⟩
        exact ⟨h1, h2, rfl, h4, h5, h6⟩
    · simp only [if_neg hn]
      constructor
      · rintro ⟨h1, h2, h3, h4, h5, h6, ⟨h7, h8⟩, h9, h10⟩
        exact ⟨⟨h1, h2, h3, h4, h5, h7, h9⟩, .inr h6, h8, h10⟩
      · rintro ⟨⟨h1, h2, h3, h4, h5, h7, h9⟩, h6, h8, h10⟩
        exact ⟨h1, h2, h3, h4, h5, h6.resolve_left hn, ⟨h7, h8⟩, h9, h10⟩
theorem chkTree_ok (ns : List Nd) : chkTree ns = 0 ↔ sizeNs ns ≤ 3000 ∧ Rt [] false ns := by
  have h1 := fitsF_walk ns [] [] 0 (by omega)
  have h2 := nodeF_walk ns [] []
  have h3 := Rt_iff ns [] false
  simp only [List.nil_append, List.length_nil, List.map_nil] at h1 h2 h3
  have he : endsText ([] : List Nd) = false := rfl
  have h0 : ((0 : Nat) : Int) = 0 := rfl
  rw [he] at h2
  rw [h0, Nat.zero_add] at h1
  rw [h3]
  unfold chkTree
  rcases h1 with ⟨a1, a2, a3⟩ | ⟨a1, a2⟩
  · rw [a1]
    simp only [if_true]
    rcases h2 with ⟨b1, b2⟩ | ⟨b1, b2, b3⟩
    · rw [b1]
      exact ⟨fun _ => ⟨a2, b2, a3⟩, fun _ => rfl⟩
    · exact ⟨fun h => absurd h b2, fun h => absurd h.2.1 b3⟩
  · rw [a1, if_neg (by simp)]
    exact ⟨fun h => by simp at h, fun h => absurd ⟨h.1, h.2.2⟩ a2⟩
theorem innerTo_take (is hides : List UInt8 → Bool) (ns : List (List UInt8)) : ∀ (i : Nat), i ≤ ns.length → innerTo is hides ns i = ns.length ∨ (innerTo is hides ns i < i ∧ is (ns.getD (innerTo is hides ns i) []) = true)
  | 0, _ => .inl rfl
  | i + 1, h => by
    unfold innerTo
    split
    · next h1 => exact .inr ⟨by omega, h1⟩
    · split
      · exact .inl rfl
      · rcases innerTo_take is hides ns i (by omega) with h2 | ⟨h2, h3⟩
        · exact .inl h2
        · exact .inr ⟨by omega, h3⟩
theorem innerL_cases (is hides : List UInt8 → Bool) (ns : List (List UInt8)) : innerL is hides ns = ns.length ∨ (innerL is hides ns < ns.length ∧ is (ns.getD (innerL is hides ns) []) = true) := innerTo_take is hides ns ns.length (Nat.le_refl _)
theorem inner_le (is hides : List UInt8 → Bool) (ns : List (List UInt8)) : innerL is hides ns ≤ ns.length := innerTo_le is hides ns _ (Nat.le_refl _)
theorem closed_le (ns : List (List UInt8)) (n : List UInt8) : closedL ns n ≤ ns.length := by
  unfold closedL
  split
  · refine Nat.le_trans (inner_le _ _ _) ?_
    rw [List.length_take]
    omega
  · split
    · exact inner_le _ _ _
    · exact Nat.le_refl _
def Calm (ar : List (List UInt8)) : Prop := ∀ i, i < ar.length → i ≤ closedL (ar.take i) (ar.getD i [])
theorem closedL_p (ns : List (List UInt8)) : closedL ns [112] = innerL (· == [112]) wallN ns := by
  unfold closedL
  rw [if_neg (by decide), if_pos (by decide)]
theorem closedL_li (ns : List (List UInt8)) : closedL ns [108, 105] = innerL (· == [108, 105]) listN (ns.take (innerL (· == [112]) wallN ns)) := by
  unfold closedL
  rw [if_pos rfl, if_pos (by decide)]
theorem take_take_le {α : Type} (l : List α) (a b : Nat) (h : a ≤ b) : (l.take b).take a = l.take a := by rw [List.take_take, Nat.min_eq_left h]
theorem getD_take (l : List (List UInt8)) (j f : Nat) (h : j < f) : (l.take f).getD j [] = l.getD j [] := by
  simp [List.getD_eq_getElem?_getD, h]
theorem calm_p (ar : List (List UInt8)) (h : Calm ar) : innerL (· == [112]) wallN (ar.take (innerL (· == [112]) wallN ar)) = innerL (· == [112]) wallN ar := by
  rcases innerL_cases (· == [112]) wallN ar with h1 | ⟨h1, h2⟩
  · rw [h1, List.take_length, h1]
  · have h3 := h _ h1
    rw [eq_of_beq h2, closedL_p] at h3
    have h4 := inner_le (· == [112]) wallN (ar.take (innerL (· == [112]) wallN ar))
    rw [List.length_take] at h4
    omega
theorem closed_done (ar : List (List UInt8)) (n : List UInt8) (h : Calm ar) : closedL ar n ≤ closedL (ar.take (closedL ar n)) n := by
  by_cases hn : n = [108, 105]
  · subst hn
    have hp := calm_p ar h
    have hf := inner_le (· == [112]) wallN ar
    rw [closedL_li ar]
    generalize hF : innerL (· == [112]) wallN ar = f at *
    rcases innerL_cases (· == [108, 105]) listN (ar.take f) with h1 | ⟨h1, h2⟩
    · rw [h1, List.length_take, Nat.min_eq_left hf, closedL_li, hp, take_take_le _ _ _ (Nat.le_refl _), h1, List.length_take, Nat.min_eq_left hf]
      exact Nat.le_refl _
    · rw [List.length_take] at h1
      have h3 := h (innerL (· == [108, 105]) listN (ar.take f)) (by omega)
      rw [getD_take _ _ _ (by omega)] at h2
      rw [eq_of_beq h2] at h3
      exact h3
  · have e : ∀ x, closedL x n = if blockN n = true then innerL (· == [112]) wallN x else x.length := fun x => by unfold closedL; rw [if_neg hn]
    rw [e ar]
    by_cases hb : blockN n = true
    · rw [if_pos hb, e, if_pos hb, calm_p ar h]
      exact Nat.le_refl _
    · rw [if_neg hb, e, if_neg hb, List.take_length]
      exact Nat.le_refl _
theorem innerTo_root (is hides : List UInt8 → Bool) (h1 : is [] = false) (ns : List (List UInt8)) : ∀ i, innerTo is hides ([] :: ns) (i + 1) = innerTo is hides ns i + 1
  | 0 => by
    unfold innerTo
    rw [if_neg (by simp [h1])]
    split
    · simp
    · rfl
  | i + 1 => by
    rw [innerTo, List.getD_cons_succ]
    conv => rhs; rw [innerTo]
    split
    · rfl
    · split
      · simp
      · exact innerTo_root is hides h1 ns i
theorem innerL_root (is hides : List UInt8 → Bool) (h1 : is [] = false) (ns : List (List UInt8)) : innerL is hides ([] :: ns) = innerL is hides ns + 1 := innerTo_root is hides h1 ns ns.length
theorem closedL_root (ns : List (List UInt8)) (n : List UInt8) : closedL ([] :: ns) n = closedL ns n + 1 := by
  unfold closedL
  by_cases hn : n = [108, 105]
  · subst hn
    rw [if_pos rfl, if_pos rfl, if_pos (by decide), if_pos (by decide), innerL_root _ _ (by decide), List.take_succ_cons, innerL_root _ _ (by decide)]
  · rw [if_neg hn, if_neg hn]
    split
    · rw [innerL_root _ _ (by decide)]
    · rfl
def arOf : List Op → List (List UInt8)
  | [] => []
  | [_] => []
  | o :: p :: r => arOf (p :: r) ++ [o.name]
def Ch : List Op → Prop
  | [] => False
  | [o] => o.name = [] ∧ Rt [] false o.kids
  | o :: p :: r => Ch (p :: r) ∧ isNameL o.name = true ∧ chkA o.attrs [] = 0 ∧ emptyN o.name = false ∧ (arOf (p :: r)).length ≤ closedL (arOf (p :: r)) o.name ∧ (arOf (p :: r)).length < 8 ∧ Rt (arOf (p :: r) ++ [o.name]) false o.kids
theorem arOf_len : ∀ c : List Op, (arOf c).length = c.length - 1
  | [] => rfl
  | [_] => rfl
  | o :: p :: r => by rw [arOf, List.length_append, arOf_len (p :: r)]; simp
theorem arOf_names : ∀ c : List Op, Ch c → (c.reverse.map Op.name) = [] :: arOf c
  | [], h => by simp [Ch] at h
  | [o], h => by simp only [Ch] at h; simp [arOf, h.1]
  | o :: p :: r, h => by
    have := arOf_names (p :: r) (by simp only [Ch] at h; exact h.1)
    rw [List.reverse_cons, List.map_append, this, arOf]
    rfl
theorem calm_snoc (ar : List (List UInt8)) (n : List UInt8) (h : Calm ar) (hn : ar.length ≤ closedL ar n) : Calm (ar ++ [n]) := by
  intro i hi
  rw [List.length_append, List.length_singleton] at hi
  rcases Nat.lt_or_ge i ar.length with h1 | h1
  · rw [List.take_append_of_le_length (by omega)]
    have : (ar ++ [n]).getD i [] = ar.getD i [] := by simp [List.getD_eq_getElem?_getD, List.getElem?_append_left h1]
    rw [this]
    exact h i h1
  · obtain rfl : i = ar.length := by omega
    have : (ar ++ [n]).getD ar.length [] = n := by simp [List.getD_eq_getElem?_getD]
    rw [this, List.take_left]
    exact hn
theorem Ch_calm : ∀ c : List Op, Ch c → Calm (arOf c)
  | [], _ => fun i hi => by simp [arOf] at hi
  | [_], _ => fun i hi => by simp [arOf] at hi
  | o :: p :: r, h => by
    simp only [Ch] at h
    rw [arOf]
    exact calm_snoc _ _ (Ch_calm (p :: r) h.1) h.2.2.2.2.1
def GoodS (s : St) : Prop := Ch (s.cur :: s.up) ∧ endsText s.cur.kids = false
theorem Ch_put {o : Op} {r : List Op} (h : Ch (o :: r)) (n : Nd) (hn : Rt (arOf (o :: r)) false o.kids → Rt (arOf (o :: r)) false (o.kids ++ [n])) : Ch (o.put n :: r) := by
  cases r with
  | nil =>
    simp only [Ch] at h ⊢
    exact ⟨h.1, hn h.2⟩
  | cons p r =>
    simp only [Ch] at h ⊢
    exact ⟨h.1, h.2.1, h.2.2.1, h.2.2.2.1, h.2.2.2.2.1, h.2.2.2.2.2.1, hn h.2.2.2.2.2.2⟩
theorem Ch_kids : ∀ {o : Op} {r : List Op}, Ch (o :: r) → Rt (arOf (o :: r)) false o.kids
  | _, [], h => by simp only [Ch] at h; exact h.2
  | _, _ :: _, h => by simp only [Ch] at h; rw [arOf]; exact h.2.2.2.2.2.2
theorem good_endText {s : St} (h : GoodS s) : Ch (s.endText.cur :: s.up) := by
  unfold St.endText
  split
  · exact h.1
  · next ht => exact Ch_put h.1 _ (fun hk => Rt_snoc_text _ _ _ _ hk ht (fun _ => rfl) h.2)
theorem endText_name (s : St) : s.endText.cur.name = s.cur.name := by unfold St.endText; split <;> rfl
theorem good_pop {s : St} (h : GoodS s) (hu : s.up ≠ []) : GoodS s.pop := by
  have he := good_endText h
  unfold St.pop
  split
  · next h0 => exact absurd h0 hu
  · next o up h0 =>
    rw [h0] at he
    simp only [Ch] at he
    obtain ⟨h1, h2, h3, h4, h5, h6, h7⟩ := he
    refine ⟨Ch_put h1 _ (fun hk => Rt_snoc_el _ _ _ _ hk ⟨h2, rfl, h3, fun hb => ?_, h5, h6, h7⟩), ?_⟩
    · have hb : emptyN s.endText.cur.name = true := hb
      rw [h4] at hb
      simp at hb
    · simp only [Op.put, endsText_snoc]
      have := name_some h2
      simpa [Op.nd, Nd.name] using this
theorem good_close : ∀ (k : Nat) (s : St), GoodS s → k ≤ s.up.length → GoodS (s.close k)
  | 0, s, h, _ => h
  | k + 1, s, h, hk => by
    have hu : s.up ≠ [] := by intro h0; rw [h0] at hk; simp at hk
    rw [St.close]
    exact good_close k _ (good_pop h hu) (by rw [pop_up, List.length_tail]; omega)
theorem close_names {s : St} (h : GoodS s) (k : Nat) (hk : k ≤ s.up.length) : arOf ((s.close k).cur :: (s.close k).up) = (arOf (s.cur :: s.up)).take (s.up.length - k) := by
  induction k generalizing s with
  | zero =>
    rw [Nat.sub_zero]
    have := arOf_len (s.cur :: s.up)
    rw [List.take_of_length_le (by rw [this]; simp)]
    rfl
  | succ k ih =>
    have hu : s.up ≠ [] := by intro h0; rw [h0] at hk; simp at hk
    rw [St.close, ih (good_pop h hu) (by rw [pop_up, List.length_tail]; omega), pop_up, List.length_tail]
    have e : arOf (s.pop.cur :: s.pop.up) = (arOf (s.cur :: s.up)).take (s.up.length - 1) := by
      unfold St.pop
      split
      · next h0 => exact absurd h0 hu
      · next o up h0 =>
        have hl := arOf_len (o :: up)
        rw [h0]
        rw [show arOf (s.cur :: o :: up) = arOf (o :: up) ++ [s.cur.name] from rfl]
        have e2 : ∀ x, arOf (o.put x :: up) = arOf (o :: up) := fun x => by cases up <;> rfl
        rw [e2, List.take_left' (by rw [hl])]
    rw [pop_up] at e
    rw [e, List.take_take]
    congr 1
    omega
theorem St_names (s : St) (h : GoodS s) : s.names = [] :: arOf (s.cur :: s.up) := by
  rw [← arOf_names _ h.1]
  unfold St.names St.all
  simp
theorem good_openTag {s : St} {t : Tok} (h : GoodS s) (hk : t.kind = 2) (ht : chkT t = 0) : GoodS (s.openTag t) := by
  have hl := arOf_len (s.cur :: s.up)
  rw [List.length_cons, Nat.add_sub_cancel] at hl
  have hle := closed_le (arOf (s.cur :: s.up)) t.name
  have hd := closed_done _ t.name (Ch_calm _ h.1)
  have hcf : s.closeFrom (closedL s.names t.name) = s.close (s.up.length - closedL (arOf (s.cur :: s.up)) t.name) := by
    unfold St.closeFrom
    rw [St_names s h, closedL_root]
    congr 1
    omega
  unfold St.openTag
  rw [hcf]
  clear hcf
  generalize closedL (arOf (s.cur :: s.up)) t.name = c at *
  have hg := good_close _ s h (Nat.sub_le s.up.length c)
  have hn := close_names h _ (Nat.sub_le s.up.length c)
  rw [show s.up.length - (s.up.length - c) = c from by omega] at hn
  rw [← hn] at hd
  have hlen := congrArg List.length hn
  rw [List.length_take] at hlen
  have hl2 := arOf_len ((s.close (s.up.length - c)).cur :: (s.close (s.up.length - c)).up)
  rw [List.length_cons, Nat.add_sub_cancel] at hl2
  generalize s.close (s.up.length - c) = u at *
  have hd : (arOf (u.cur :: u.up)).length ≤ closedL (arOf (u.cur :: u.up)) t.name := by omega
  clear hn hlen hle hl h
  split
  · exact hg
  · next h8 =>
    have ha : isNameL t.name = true ∧ chkA t.attrs [] = 0 := by
      unfold chkT at ht
      rw [hk, if_neg (by decide), if_pos rfl] at ht
      split at ht
      · simp at ht
      · next hc =>
        simp only [not_or, Bool.not_eq_false] at hc
        exact ⟨hc.2, ht⟩
    have he := good_endText hg
    have hae : arOf (u.endText.cur :: u.up) = arOf (u.cur :: u.up) := by
      cases hu : u.up with
      | nil => rfl
      | cons p r => simp only [arOf, endText_name]
    unfold St.openIn
    split
    · next hem =>
      refine ⟨?_, ?_⟩
      · simp only [St.put, endText_up]
        exact Ch_put he _ (fun hk => Rt_snoc_el _ _ _ _ hk ⟨ha.1, rfl, ha.2, fun _ => rfl, by rw [hae]; exact hd, by rw [hae]; omega, Rt_nil _ _⟩)
      · simp only [St.put, Op.put, endsText_snoc, Nd.name]
        simpa using name_some ha.1
    · next hem =>
      refine ⟨?_, rfl⟩
      simp only [Ch]
      exact ⟨he, ha.1, ha.2, by simpa using hem, by rw [hae]; exact hd, by rw [hae]; omega, Rt_nil _ _⟩
theorem innerL_root_pos (n : List UInt8) (hn : n ≠ []) (ns : List (List UInt8)) : 1 ≤ innerL (· == n) (fun _ => false) ([] :: ns) := by
  rw [innerL_root _ _ (by simpa using hn.symm)]
  omega
theorem good_step {s : St} {t : Tok} (h : GoodS s) (ht : chkT t = 0) : GoodS (s.step t) := by
  unfold St.step
  split
  · exact ⟨h.1, h.2⟩
  · next h1 =>
    split
    · next h2 => exact good_openTag h h2 ht
    · next h2 =>
      unfold St.closeTag St.closeFrom
      rw [St_names s h]
      have hn : t.name ≠ [] := by
        unfold chkT at ht
        rw [if_neg h1, if_neg h2] at ht
        split at ht
        · split at ht
          · simp at ht
          · next hc =>
            simp only [not_or, Bool.not_eq_false] at hc
            exact name_some hc.2.2
        · simp at ht
      have := innerL_root_pos t.name hn (arOf (s.cur :: s.up))
      exact good_close _ _ h (by omega)
theorem good_start : GoodS St.start := ⟨by simp only [St.start, Ch]; exact ⟨trivial, Rt_nil _ _⟩, rfl⟩
theorem good_fold (ts : List Tok) (s : St) (h : GoodS s) (ht : ∀ t ∈ ts, chkT t = 0) : GoodS (ts.foldl St.step s) := by
  induction ts generalizing s with
  | nil => exact h
  | cons t ts ih => exact ih _ (good_step h (ht t (by simp))) (fun u hu => ht u (by simp [hu]))
theorem built_right (ts : List Tok) (h : chkL ts = 0) : Rt [] false (buildL ts) := by
  have hg := good_fold ts St.start good_start (chkL_each ts h)
  unfold buildL St.closeFrom
  rw [Nat.add_sub_cancel]
  have hc := good_close _ _ hg (Nat.le_refl _)
  have hu := close_up (ts.foldl St.step St.start).up.length (ts.foldl St.step St.start)
  rw [List.drop_length] at hu
  generalize (ts.foldl St.step St.start).close (ts.foldl St.step St.start).up.length = u at *
  have he := good_endText hc
  rw [hu] at he
  exact Ch_kids he
theorem sizeNs_append (a b : List Nd) : sizeNs (a ++ b) = sizeNs a + sizeNs b := by
  induction a with
  | nil => simp [sizeNs]
  | cons n a ih => rw [List.cons_append, sizeNs_cons, sizeNs_cons, ih]; omega
def St.size (s : St) : Nat := (s.all.map fun o => sizeNs o.kids).sum + s.up.length + if s.text = [] then 0 else 1
theorem size_endText (s : St) : s.endText.size = s.size := by
  unfold St.endText
  split
  · rfl
  · next h => simp [St.size, St.all, Op.put, sizeNs_append, textN, sizeNs, h]; omega
theorem size_pop (s : St) : s.pop.size = s.size := by
  rw [← size_endText s]
  unfold St.pop
  split
  · rfl
  · next o up h =>
    have h1 := endText_up s
    have h2 := endText_text s
    rw [h] at h1
    simp [St.size, St.all, Op.put, sizeNs_append, h1, h2, Op.nd, sizeNs]
    omega
theorem size_close (k : Nat) (s : St) : (s.close k).size = s.size := by
  induction k generalizing s with
  | zero => rfl
  | succ k ih => rw [St.close, ih, size_pop]
theorem size_step (s : St) (t : Tok) : (s.step t).size ≤ s.size + 1 := by
  unfold St.step
  split
  · simp only [St.size, St.all]
    split <;> split <;> omega
  · split
    · unfold St.openTag St.closeFrom
      split
      · rw [size_close]; omega
      · rw [← size_close (s.up.length + 1 - closedL s.names t.name) s]
        generalize s.close (s.up.length + 1 - closedL s.names t.name) = u
        rw [← size_endText u]
        unfold St.openIn
        split
        · simp [St.size, St.all, St.put, Op.put, sizeNs_append, sizeNs, endText_text]
          omega
        · simp [St.size, St.all, endText_up, endText_text, sizeNs]
          omega
    · unfold St.closeTag St.closeFrom
      rw [size_close]
      omega
theorem size_fold (ts : List Tok) (s : St) : (ts.foldl St.step s).size ≤ s.size + ts.length := by
  induction ts generalizing s with
  | nil => simp
  | cons t ts ih => rw [List.foldl_cons, List.length_cons]; have := ih (s.step t); have := size_step s t; omega
theorem size_build (ts : List Tok) : sizeNs (buildL ts) ≤ ts.length := by
  have h1 := size_fold ts St.start
  have h0 : St.start.size = 0 := by simp [St.size, St.all, St.start, sizeNs]
  rw [h0, Nat.zero_add] at h1
  unfold buildL St.closeFrom
  rw [Nat.add_sub_cancel]
  have hu := close_up (ts.foldl St.step St.start).up.length (ts.foldl St.step St.start)
  rw [List.drop_length] at hu
  rw [← size_close (ts.foldl St.step St.start).up.length] at h1
  generalize (ts.foldl St.step St.start).close (ts.foldl St.step St.start).up.length = u at *
  rw [← size_endText] at h1
  have h2 := endText_up u
  rw [hu] at h2
  simp [St.size, St.all, h2, endText_text] at h1
  exact h1
theorem chk_built (ts : List Tok) (h : chkL ts = 0) : chkTree (buildL ts) = 0 := by
  rw [chkTree_ok]
  refine ⟨Nat.le_trans (size_build ts) ?_, built_right ts h⟩
  unfold chkL at h
  split at h
  · simp at h
  · omega
theorem innerL_last (n : List UInt8) (ns : List (List UInt8)) : innerL (· == n) (fun _ => false) (ns ++ [n]) = ns.length := by
  unfold innerL
  rw [List.length_append, List.length_singleton]
  unfold innerTo
  rw [if_pos (by simp [List.getD_eq_getElem?_getD])]
theorem closeFrom_all (s : St) (a : Nat) (h : s.up.length + 1 ≤ a) : s.closeFrom a = s := by
  unfold St.closeFrom
  rw [show s.up.length + 1 - a = 0 from by omega]
  rfl
theorem fold_flat : ∀ (ns : List Nd) (ar : List (List UInt8)) (prev : Bool) (s : St), Rt ar prev ns → s.names = [] :: ar → (s.text ≠ [] → prev = true) →
    ((flatL ns).foldl St.step s).up = s.up ∧ ((flatL ns).foldl St.step s).endText.cur = { s.endText.cur with kids := s.endText.cur.kids ++ ns }
  | [], ar, prev, s, _, _, _ => by
    rw [flatL]
    exact ⟨rfl, by simp⟩
  | .mk n a t k :: r, ar, prev, s, hR, hn, ht => by
    have hul : s.up.length = ar.length := by
      have := congrArg List.length hn
      simp [St.names, St.all] at this
      omega
    rw [flatL, List.foldl_append]
    by_cases h0 : n = []
    · subst h0
      have h := (Rt_text ar prev (.mk [] a t k) r rfl).1 hR
      obtain ⟨h1, h2, h3, h4, h5⟩ := h
      have h1 : t ≠ [] := h1
      have h2 : a = [] := h2
      have h3 : k = [] := h3
      subst h2
      subst h3
      have htx : s.text = [] := by
        rcases Decidable.em (s.text = []) with h | h
        · exact h
        · have := ht h; rw [h4] at this; simp at this
      rw [if_pos List.isEmpty_nil, List.foldl_cons, List.foldl_nil]
      have hst : s.step ⟨1, [], [], t⟩ = ⟨s.up, s.cur, t⟩ := by
        unfold St.step
        rw [if_pos rfl, htx]
        rfl
      rw [hst]
      have ih := fold_flat r ar true ⟨s.up, s.cur, t⟩ h5 hn (fun _ => rfl)
      refine ⟨ih.1, ?_⟩
      rw [ih.2]
      have e1 : St.endText ⟨s.up, s.cur, t⟩ = ⟨s.up, s.cur.put (textN t), []⟩ := if_neg (show t ≠ [] from h1)
      have e2 : s.endText = s := by unfold St.endText; rw [if_pos htx]
      rw [e1, e2]
      simp [Op.put, textN]
    · have h := (Rt_el ar prev (.mk n a t k) r h0).1 hR
      obtain ⟨h1, h2, h3, h4, h5, h6, h7, h8⟩ := h
      simp only [Nd.name, Nd.attrs, Nd.text, Nd.kids] at h1 h2 h3 h4 h5 h7
      subst h2
      rw [if_neg (by simpa using h0)]
      have hcl : s.closeFrom (closedL s.names n) = s := closeFrom_all _ _ (by rw [hn, closedL_root]; omega)
      have hop : s.step ⟨2, n, a, []⟩ = s.openIn ⟨2, n, a, []⟩ := by
        unfold St.step
        rw [if_neg (by simp), if_pos rfl]
        unfold St.openTag
        rw [hcl, if_neg (by omega)]
      rw [List.foldl_cons, hop]
      by_cases hem : emptyN n = true
      · have hk := h4 hem
        subst hk
        rw [if_pos hem, flatL, List.append_nil, List.foldl_nil]
        have e1 : s.openIn ⟨2, n, a, []⟩ = s.endText.put (.mk n a [] []) := by unfold St.openIn; rw [if_pos hem]
        rw [e1]
        have hnm : (s.endText.put (.mk n a [] [])).names = [] :: ar := by
          rw [← hn]
          simp [St.names, St.all, St.put, Op.put, endText_up, endText_name]
        have ih := fold_flat r ar false (s.endText.put (.mk n a [] [])) h8 hnm (fun h => absurd (endText_text s) h)
        refine ⟨ih.1.trans (endText_up s), ?_⟩
        rw [ih.2]
        have e2 : (s.endText.put (.mk n a [] [])).endText = s.endText.put (.mk n a [] []) := by
          have hx := endText_text s
          generalize s.endText = u at *
          unfold St.endText
          rw [if_pos (show (u.put (.mk n a [] [])).text = [] from hx)]
        rw [e2]
        simp [St.put, Op.put]
      · rw [if_neg hem, List.foldl_append, List.foldl_cons, List.foldl_nil]
        have e1 : s.openIn ⟨2, n, a, []⟩ = ⟨s.endText.cur :: s.up, ⟨n, a, []⟩, []⟩ := by unfold St.openIn; rw [if_neg hem]
        rw [e1]
        have hnm : (St.mk (s.endText.cur :: s.up) ⟨n, a, []⟩ []).names = [] :: (ar ++ [n]) := by
          rw [← List.cons_append, ← hn]
          simp [St.names, St.all, endText_name]
        have ihk := fold_flat k (ar ++ [n]) false ⟨s.endText.cur :: s.up, ⟨n, a, []⟩, []⟩ h7 hnm (fun h => absurd rfl h)
        generalize (flatL k).foldl St.step ⟨s.endText.cur :: s.up, ⟨n, a, []⟩, []⟩ = u at *
        obtain ⟨hu, hc⟩ := ihk
        have hu : u.up = s.endText.cur :: s.up := hu
        have e3 : St.endText ⟨s.endText.cur :: s.up, ⟨n, a, []⟩, []⟩ = ⟨s.endText.cur :: s.up, ⟨n, a, []⟩, []⟩ := rfl
        rw [e3] at hc
        have hc : u.endText.cur = ⟨n, a, [] ++ k⟩ := hc
        rw [List.nil_append] at hc
        have hcn : u.cur.name = n := by rw [← endText_name, hc]
        have hst : u.step ⟨3, n, [], []⟩ = ⟨s.up, s.endText.cur.put (.mk n a [] k), []⟩ := by
          unfold St.step
          rw [if_neg (by simp), if_neg (by simp)]
          unfold St.closeTag St.closeFrom
          have hnu : u.names = (s.endText.cur :: s.up).reverse.map Op.name ++ [n] := by
            unfold St.names St.all
            rw [hu, List.map_append, List.map_cons, List.map_nil, hcn]
          rw [hnu, innerL_last, List.length_map, List.length_reverse, hu, List.length_cons, show s.up.length + 1 + 1 - (s.up.length + 1) = 1 from by omega]
          simp only [St.close, St.pop, hu, hc, Op.nd]
        rw [hst]
        have hnm2 : (St.mk s.up (s.endText.cur.put (.mk n a [] k)) []).names = [] :: ar := by
          rw [← hn]
          simp [St.names, St.all, Op.put, endText_name]
        have ih := fold_flat r ar false ⟨s.up, s.endText.cur.put (.mk n a [] k), []⟩ h8 hnm2 (fun h => absurd rfl h)
        refine ⟨ih.1, ?_⟩
        rw [ih.2]
        have e4 : St.endText ⟨s.up, s.endText.cur.put (.mk n a [] k), []⟩ = ⟨s.up, s.endText.cur.put (.mk n a [] k), []⟩ := rfl
        rw [e4]
        simp [Op.put]
theorem build_flat (ns : List Nd) (h : Rt [] false ns) : buildL (flatL ns) = ns := by
  have h1 := fold_flat ns [] false St.start h rfl (fun h => absurd rfl h)
  unfold buildL
  rw [closeFrom_all _ _ (by rw [h1.1]; simp [St.start]), h1.2]
  rfl
def lastKd : Int → List Tok → Int
  | p, [] => p
  | _, t :: r => lastKd t.kind r
theorem chkFrom_append (a b : List Tok) (p : Int) (h : chkFrom p a = 0) : chkFrom p (a ++ b) = chkFrom (lastKd p a) b := by
  induction a generalizing p with
  | nil => rfl
  | cons t a ih =>
    unfold chkFrom at h
    rw [List.cons_append, chkFrom, lastKd]
    split at h
    · next hc => exact absurd h hc
    · next hc =>
      rw [if_neg hc]
      split at h
      · simp at h
      · next hd =>
        rw [if_neg hd]
        exact ih _ h
theorem flat_right : ∀ (ns : List Nd) (ar : List (List UInt8)) (prev : Bool) (p : Int), Rt ar prev ns → (p = 1 → prev = true) → chkFrom p (flatL ns) = 0
  | [], _, _, _, _, _ => by rw [flatL]; rfl
  | .mk n a t k :: r, ar, prev, p, hR, hp => by
    rw [flatL]
    by_cases h0 : n = []
    · subst h0
      obtain ⟨h1, h2, h3, h4, h5⟩ := (Rt_text ar prev (.mk [] a t k) r rfl).1 hR
      have h1 : t ≠ [] := h1
      rw [if_pos List.isEmpty_nil, List.singleton_append, chkFrom]
      rw [if_neg (by simp [chkT, h1]), if_neg (fun h => by have := hp h.2; rw [h4] at this; simp at this)]
      exact flat_right r ar true 1 h5 (fun _ => rfl)
    · obtain ⟨h1, h2, h3, h4, h5, h6, h7, h8⟩ := (Rt_el ar prev (.mk n a t k) r h0).1 hR
      simp only [Nd.name, Nd.attrs, Nd.text, Nd.kids] at h1 h2 h3 h4 h5 h7
      rw [if_neg (by simpa using h0), List.cons_append, chkFrom]
      rw [if_neg (by simp [chkT, h1, h3]), if_neg (by simp)]
      have hk := flat_right k (ar ++ [n]) false 2 h7 (fun h => by simp at h)
      by_cases hem : emptyN n = true
      · have hk0 := h4 hem
        subst hk0
        rw [if_pos hem, flatL, List.nil_append, List.nil_append]
        exact flat_right r ar false 2 h8 (fun h => by simp at h)
      · rw [if_neg hem, List.append_assoc, chkFrom_append _ _ _ hk, List.singleton_append, chkFrom]
        rw [if_neg (by simp [chkT, h1]), if_neg (by simp)]
        exact flat_right r ar false 3 h8 (fun h => by simp at h)
theorem chk_flat (ns : List Nd) (h : Rt [] false ns) (hl : (flatL ns).length ≤ 3000) : chkL (flatL ns) = 0 := by
  unfold chkL
  rw [if_neg (by omega)]
  exact flat_right ns [] false 0 h (fun h => by simp at h)
theorem innerTo_snoc (is hides : List UInt8 → Bool) (ns : List (List UInt8)) (n : List UInt8) : ∀ i, i ≤ ns.length → (innerTo is hides ns i < ns.length ↔ innerTo is hides (ns ++ [n]) i < ns.length)
  | 0, _ => by simp [innerTo]
  | i + 1, h => by
    have e : (ns ++ [n]).getD i [] = ns.getD i [] := by simp [List.getD_eq_getElem?_getD, List.getElem?_append_left (show i < ns.length from by omega)]
    unfold innerTo
    rw [e]
    split
    · exact Iff.rfl
    · split
      · rw [List.length_append]; simp
      · exact innerTo_snoc is hides ns n i (by omega)
def opens (is hides : List UInt8 → Bool) (ns : List (List UInt8)) : Bool := decide (innerL is hides ns < ns.length)
theorem innerTo_lt (is hides : List UInt8 → Bool) (ns : List (List UInt8)) (n : List UInt8) : ∀ i, i ≤ ns.length → (innerTo is hides (ns ++ [n]) i < ns.length + 1 ↔ innerTo is hides (ns ++ [n]) i < ns.length)
  | 0, _ => by simp [innerTo]
  | i + 1, h => by
    unfold innerTo
    split
    · omega
    · split
      · rw [List.length_append]; simp
      · exact innerTo_lt is hides ns n i (by omega)
theorem opens_snoc (is hides : List UInt8 → Bool) (ns : List (List UInt8)) (n : List UInt8) : opens is hides (ns ++ [n]) = if is n = true then true else if hides n = true then false else opens is hides ns := by
  unfold opens innerL
  rw [List.length_append, List.length_singleton]
  have e : (ns ++ [n]).getD ns.length [] = n := by simp [List.getD_eq_getElem?_getD]
  rw [innerTo, e]
  split
  · simp
  · split
    · rw [List.length_append]; simp
    · rw [decide_eq_decide, innerTo_lt _ _ _ _ _ (Nat.le_refl _), ← innerTo_snoc _ _ _ _ _ (Nat.le_refl _)]
end Go.Proofs.YtlcljanibjdejaaGreat

/- CleanGood holds: for every input the law returns true, and each argument reads behind the call as it read before; no condition. A part of its proof. -/
import Derived.Test.YtlcljanibjdejaaGreatCg08
import Derived.Deep.RegionHeld3
namespace Go.Proofs.YtlcljanibjdejaaGreat
open Go.RowKit Go.Maps
theorem row_noneX (W : World) (B : Nat) (e : TypeId) (z : Nat) (hB : B ≤ W.heap.size) : (W.alloc (.cells #[] e)).ownsRow B e z (.slice (some ⟨W.heap.size, 0, none⟩) 0 0) 0 [] :=
  ⟨by simp, .inr ⟨W.heap.size, 0, #[], rfl, hB, heap_alloc_new W _, Nat.le_refl _, Nat.zero_le _, by simp, by simp⟩⟩
def BuiltX (w : World) (R : List Nd × Nat × Nat) (e : Ending) (w' : World) : Prop :=
  ∃ (o : Option Addr) (c : Nat), e = .returned (.tuple #[.slice o R.1.length c, .int .i64 R.2.1, .int .i64 R.2.2]) ∧ Ns w' (fun g => w.heap.size ≤ g) (.slice o R.1.length c) R.1 ∧ Keeps [] w w'
structure BInvX (w wr : World) (k : Nat) (ov : Value) (l : List Pn) : Prop where
  out : OutT wr w.heap.size ov l
  len : l.length ≤ k
  txt : ∀ q ∈ l, q.nd.text.length ≤ 40000 * k
  kp : Keeps [] w wr
theorem BInvX.keeps {w wr w' : World} {k : Nat} {ov : Value} {l : List Pn} (h : BInvX w wr k ov l) (hk : Keeps [] wr w') : BInvX w w' k ov l := ⟨h.out.keepsNil hk, h.len, h.txt, h.kp.trans hk⟩
theorem BInvX.next {w wr : World} {k k' : Nat} {ov : Value} {l : List Pn} (h : BInvX w wr k ov l) (hk : k ≤ k') : BInvX w wr k' ov l := ⟨h.out, Nat.le_trans h.len hk, fun q hq => Nat.le_trans (h.txt q hq) (Nat.mul_le_mul_left _ hk), h.kp⟩
theorem BInvX.built {w wr : World} {k : Nat} {o : Option Addr} {c : Nat} {l : List Pn} (h : BInvX w wr k (.slice o l.length c) l) {R : List Nd × Nat × Nat} {k' left : Nat} (hR : (l.map Pn.nd, k', left) = R) : BuiltX w R (.returned (.tuple #[.slice o l.length c, .int .i64 k', .int .i64 left])) wr := by
  subst hR
  exact ⟨o, c, by simp, by simpa using h.out.ns, h.kp⟩
theorem BInvX.joined {w wr w' : World} {k : Nat} {ov : Value} {l : List Pn} {tx : List UInt8} {e : Ending} (h : BInvX w wr k ov l) (hj : JoinedX wr w.heap.size ov l (40000 * k) tx e w') (ht : tx.length ≤ 40000) :
    ∃ o' c' l', e = .returned (.slice o' l'.length c') ∧ l'.map Pn.nd = joinT (l.map Pn.nd) tx ∧ BInvX w w' (k + 1) (.slice o' l'.length c') l' := by
  obtain ⟨o', c', l', he, hO, hG, hl, hM, hw, hk⟩ := hj
  refine ⟨o', c', l', he, hG, hO, by have := h.len; omega, fun q hq => by have := hM q hq; omega, keeps_on h.kp hk (fun g hg hlt => ?_)⟩
  have := (h.out.row.lt g (by simpa using hg)).1
  omega
theorem BInvX.push {w wr w' : World} {k k' : Nat} {o : Option Addr} {c : Nat} {l : List Pn} {q : Pn} {av : Value} (h : BInvX w wr k (.slice o l.length c) l) (hk : Keeps (Value.slice o l.length c).ownBlock.toList wr w') (hlt : k < k') (ho : w'.ownsRow w.heap.size 45 4 av (l.length + 1) (pnsCells l ++ pnCells q)) (hw : av.ownBlock = (Value.slice o l.length c).ownBlock ∨ ∃ n, av.ownBlock = some n ∧ wr.heap.size ≤ n)
    (hqa : LiesP wr (DoneB w.heap.size (Value.slice o l.length c).ownBlock.toList) q.av q.nd.attrs.length 2 (pairCells q.nd.attrs)) (hqk : Ns wr (DoneB w.heap.size (Value.slice o l.length c).ownBlock.toList) q.kv q.nd.kids) (ht : q.nd.text = []) :
    ∃ o' c', av = .slice o' (l ++ [q]).length c' ∧ BInvX w w' k' (.slice o' (l ++ [q]).length c') (l ++ [q]) := by
  have hO := h.out.push hk ho hw hqa hqk
  obtain ⟨o', c', rfl⟩ := row_form ho
  refine ⟨o', c', by simp, ⟨by simpa using hO, by have := h.len; simp; omega, fun p hp => ?_, keeps_on h.kp hk (fun g hg hlt2 => ?_)⟩⟩
  · rcases List.mem_append.1 hp with hp | hp
    · have h1 := h.txt p hp
      have h2 : 40000 * k ≤ 40000 * k' := Nat.mul_le_mul_left _ (by omega)
      omega
    · simp at hp; subst hp; simp [ht]
  · have := (h.out.row.lt g (by simpa using hg)).1
    omega
theorem dn_atX {is hides : List UInt8 → Bool} {os : List (List UInt8)} {k m F : Nat} (hk : k < os.length) (h : dn is hides os m (k + 1) = F) : (if is os[k] = true then k else if hides os[k] = true then m else dn is hides os m k) = F := by
  unfold dn at h
  rw [show os.getD k [] = os[k] from by simp [List.getD_eq_getElem?_getD, hk]] at h
  exact h
theorem bo_ways {ts : List Tok} {m k : Nat} {os : List (List UInt8)} {acc : List Nd} {R : List Nd × Nat × Nat} (hk : k < ts.length) (hm : ts.length - k ≤ m) (hR : bo ts (m + 1) k os acc = R) (t : Tok) (ht : ts[k] = t) :
    (t.kind = 1 → bo ts (m + 1) (k + 1) os (joinT acc t.text) = R) ∧
    (t.kind = 3 → (lastI os t.name < os.length → (acc, k + 1, lastI os t.name) = R) ∧ (¬ lastI os t.name < os.length → bo ts (m + 1) (k + 1) os acc = R)) ∧
    (t.kind ≠ 1 → t.kind ≠ 3 → (closedL os t.name < os.length → (acc, k, closedL os t.name) = R) ∧ (¬ closedL os t.name < os.length →
      (os.length = 8 → bo ts (m + 1) (k + 1) os acc = R) ∧ (os.length ≠ 8 → (emptyN t.name = true → bo ts (m + 1) (k + 1) os (acc ++ [.mk t.name t.attrs [] []]) = R) ∧
        (emptyN t.name = false → ∀ r, bo ts m (k + 1) (os ++ [t.name]) [] = r → (r.2.2 < os.length → (acc ++ [.mk t.name t.attrs [] r.1], r.2.1, r.2.2) = R) ∧
          (¬ r.2.2 < os.length → bo ts (m + 1) r.2.1 os (acc ++ [.mk t.name t.attrs [] r.1]) = R) ∧ k + 1 ≤ r.2.1 ∧ r.2.1 ≤ ts.length ∧ r.2.2 ≤ os.length + 1)))) := by
  subst ht
  subst hR
  refine ⟨fun h1 => (bo_text hk hm h1).symm, fun h3 => ⟨fun hl => (bo_close hk h3 hl).symm, fun hl => (bo_close0 hk hm h3 hl).symm⟩, fun h1 h3 => ⟨fun hl => (bo_stay hk h1 h3 hl).symm, fun hl => ⟨fun h8 => (bo_deep hk hm h1 h3 hl h8).symm, fun h8 => ⟨fun he => (bo_empty hk hm h1 h3 hl h8 he).symm, fun he r hr => ?_⟩⟩⟩⟩
  obtain ⟨q1, q2, q3⟩ := bo_el (acc := acc) hk hm h1 h3 hl h8 he hr
  exact ⟨fun h => (q1 h).symm, fun h => (q2 h).symm, q3⟩
theorem nd_push (l : List Pn) (q : Pn) : (l ++ [q]).map Pn.nd = l.map Pn.nd ++ [q.nd] := by simp
structure Made (W wx : World) (nb : Nat) (nm : List UInt8) (at' : List Pair) (o3 : Option Addr) (c3 : Nat) : Prop where
  blk : wx.heap[nb]? = some (.cells #[.string ⟨nm.toArray⟩, .slice o3 at'.length c3, .string ⟨#[]⟩, .slice none 0 0] 45 (0, 0))
  ge : W.heap.size ≤ nb
  row : wx.ownsRow W.heap.size 52 2 (.slice o3 at'.length c3) at'.length (pairCells at')
  kp : Keeps [] W wx
theorem set_blkX {W : World} {nb : Nat} {u0 u1 u2 u3 v0 v1 v2 v3 : Value} (h : W.heap[nb]? = some (.cells #[u0, u1, u2, u3] 45 (0, 0))) :
    ((((W.setCell ⟨nb, 0, none⟩ v0).setCell ⟨nb, 1, none⟩ v1).setCell ⟨nb, 2, none⟩ v2).setCell ⟨nb, 3, none⟩ v3).heap[nb]? = some (.cells #[v0, v1, v2, v3] 45 (0, 0)) := by
  simp [World.setCell, Array.getElem?_modify, h]
theorem set_fourX {W : World} {S : List Nat} {a : World} (h : Keeps S a W) {nb : Nat} (hn : nb ∈ S ∨ a.heap.size ≤ nb) (v0 v1 v2 v3 : Value) : Keeps S a ((((W.setCell ⟨nb, 0, none⟩ v0).setCell ⟨nb, 1, none⟩ v1).setCell ⟨nb, 2, none⟩ v2).setCell ⟨nb, 3, none⟩ v3) :=
  (((h.setCell hn _).setCell hn _).setCell hn _).setCell hn _
theorem made_new {W w3 : World} {nm : List UInt8} {at' : List Pair} {o3 : Option Addr} {c3 : Nat} (ho3 : w3.ownsRow W.heap.size 52 2 (.slice o3 at'.length c3) at'.length (pairCells at')) (hk : Keeps [] W w3) : Made W (w3.alloc (.cells #[.string ⟨nm.toArray⟩, .slice o3 at'.length c3, .string ⟨#[]⟩, .slice none 0 0] 45)) w3.heap.size nm at' o3 c3 :=
  ⟨heap_alloc_new _ _, hk.size, ho3.alloc _, hk.alloc _⟩
theorem made_set {W w3 : World} {nb : Nat} {nm : List UInt8} {at' : List Pair} {o3 : Option Addr} {c3 : Nat} (hb : w3.heap[nb]? = some (.cells #[.string ⟨#[]⟩, .slice none 0 0, .string ⟨#[]⟩, .slice none 0 0] 45 (0, 0))) (hge : W.heap.size ≤ nb) (ho3 : w3.ownsRow W.heap.size 52 2 (.slice o3 at'.length c3) at'.length (pairCells at')) (hk : Keeps [] W w3) :
    Made W ((((w3.setCell ⟨nb, 0, none⟩ (.string ⟨nm.toArray⟩)).setCell ⟨nb, 1, none⟩ (.slice o3 at'.length c3)).setCell ⟨nb, 2, none⟩ (.string ⟨#[]⟩)).setCell ⟨nb, 3, none⟩ (.slice none 0 0)) nb nm at' o3 c3 :=
  ⟨set_blkX hb, hge, (set_fourX (Keeps.refl [nb] w3) (.inl (by simp)) _ _ _ _).owns ho3 (fun g hg hm => by simp at hm; subst hm; exact block_ne ho3 hb (by decide) hg), set_fourX hk (.inr hge) _ _ _ _⟩
theorem two_fstX (w : World) (a b : Obj) : ((w.alloc a).alloc b).heap[w.heap.size]? = some a := by
  rw [((Keeps.refl [] (w.alloc a)).alloc b).block w.heap.size (by simp) List.not_mem_nil]; exact heap_alloc_new w a
theorem two_sndX (w : World) (a b : Obj) : ((w.alloc a).alloc b).heap[w.heap.size + 1]? = some b := by
  have := heap_alloc_new (w.alloc a) b; simpa using this
theorem info9x : (Tryz.prog.info? 9).map (fun i => (i.zero, i.size, i.bytes)) = some (some (.string ⟨#[]⟩), 1, 16) := by kernel_rfl
theorem strCs_one (os : List (List UInt8)) : ∀ u ∈ strCs os, u.oneCell' = true := by
  intro u hu
  simp only [strCs, List.mem_map] at hu
  obtain ⟨a, _, rfl⟩ := hu
  rfl
theorem strCs_snoc (os : List (List UInt8)) (x : List UInt8) : strCs os ++ [.string ⟨x.toArray⟩] = strCs (os ++ [x]) := by simp [strCs]
theorem lies_litX {w : World} {g : Nat} {cs : Array Value} {t : TypeId} {n z : Nat} (h : w.heap[g]? = some (.cells cs t (0, 0))) (hn : cs.toList.length = n * z) (hm : n ≤ maxLen) : Lies w (.slice (some ⟨g, 0, none⟩) n n) n z cs.toList :=
  ⟨hn, .inr (.inl ⟨g, 0, n, rfl, Nat.le_refl _, hm, fun j u hj => by rw [Nat.zero_add, cell_blk h j]; simpa using hj⟩)⟩
theorem made_q {W wx : World} {B : Nat} {at' : List Pair} {o3 : Option Addr} {c3 : Nat} {ov : Value} {l : List Pn} (h : OutT W B ov l) (hBW : B ≤ W.heap.size) (hrow : wx.ownsRow W.heap.size 52 2 (.slice o3 at'.length c3) at'.length (pairCells at')) : LiesP wx (DoneB B ov.ownBlock.toList) (.slice o3 at'.length c3) at'.length 2 (pairCells at') :=
  LiesP.of_row hrow (fun g hg => ⟨Nat.le_trans hBW (hrow.lt g hg).1, fun hm => by have := (h.row.lt g (by simpa using hm)).2; have := (hrow.lt g hg).1; omega⟩)
@[reducible] def SBX (W : World) (b : Nat) (v1 v2 : Value) (w' : World) : Prop := Keeps [] W w' ∧ w'.cell? ⟨b, 1, none⟩ = some v1 ∧ w'.cell? ⟨b, 2, none⟩ = some v2
theorem SBX.of {W w' : World} {b : Nat} {v1 v2 : Value} (h1 : W.cell? ⟨b, 1, none⟩ = some v1) (h2 : W.cell? ⟨b, 2, none⟩ = some v2) (hk : Keeps [] W w') : SBX W b v1 v2 w' := ⟨hk, cell_keeps hk h1, cell_keeps hk h2⟩
set_option maxRecDepth 8000 in
set_option maxHeartbeats 40000000 in
theorem buildX_all (w0 : World) (ts : List Tok) (tl : List (Tok × Value)) (hts : tl.map (·.1) = ts) (vo : Option Addr) (vc : Nat) (hl : Lies w0 (.slice vo tl.length vc) tl.length 4 (outCells tl)) (ha : ∀ p ∈ tl, Lies w0 p.2 p.1.attrs.length 2 (pairCells p.1.attrs)) (ht : ∀ p ∈ tl, p.1.text.length ≤ 40000) (hal : ∀ p ∈ tl, p.1.attrs.length ≤ 1000000) (hn : tl.length ≤ 20000) :
    ∀ (m at0 : Nat), at0 ≤ tl.length → tl.length - at0 < m → ∀ (w : World), Keeps [] w0 w → ∀ (os : List (List UInt8)) (oo : Option Addr) (oc : Nat), Lies w (.slice oo os.length oc) os.length 1 (strCs os) → os.length ≤ 8 →
      Calls Tryz.prog 90 #[.slice vo tl.length vc, .int .i64 at0, .slice oo os.length oc] w fun e w' => BuiltX w (bo ts m at0 os []) e w' := by
  intro m
  induction m with
  | zero =>
    intro at0 h0 hm w hkw os oo oc hos hol
    omega
  | succ m ih =>
    intro at0 h0 hm w hkw os oo oc hos hol
    have htl : ts.length = tl.length := by rw [← hts, List.length_map]
    have hti : ∀ k (h1 : k < ts.length) (h : k < tl.length), ts[k] = tl[k].1 := fun k h1 h => by simp [← hts]
    obtain ⟨R, hR⟩ : ∃ R, bo ts (m + 1) at0 os [] = R := ⟨_, rfl⟩
    rw [hR]
    have HR0 : Hid (bo ts (m + 1) at0 os (([] : List Pn).map Pn.nd) = R) := hide hR
    have HTL := hide htl
    have HTI := hide hti
    have HI := hide ih
    have HL := hide hl
    have HA := hide ha
    have HT := hide ht
    have HN := hide hal
    have HO := hide hos
    have HKW := hide hkw
    have hb0 : BInvX w w at0 (.slice none 0 0) [] := ⟨OutT.start _ _, by simp, by simp, Keeps.refl _ _⟩
    have HB0 := hide hb0
    clear ih hl ha ht hal hos hkw hb0 hR hti htl hts
    go_enter Tryz.func90, Tryz.ntmps90
    go_wp2_with fail
    go_loopw [1, 9] (fun a ov wr => ∃ (k : Nat) (l : List Pn) (o : Option Addr) (c : Nat), a = .int .i64 k ∧ at0 ≤ k ∧ k ≤ tl.length ∧ ov = .slice o l.length c ∧ Hid (BInvX w wr k (.slice o l.length c) l) ∧ Hid (bo ts (m + 1) k os (l.map Pn.nd) = R)) (fun a _ _ => tl.length - (intOf a).toNat)
    case atStart => exact ⟨at0, [], none, 0, rfl, Nat.le_refl _, h0, rfl, HB0, HR0⟩
    case round =>
      obtain ⟨k, l, o, c, rfl, hk0, hk, rfl, hB, HR⟩ := hrel
      obtain ⟨wo, hwo⟩ : ∃ wo, wo = wr := ⟨_, rfl⟩
      subst hwo
      clear HB0 HR0
      by_cases hlt : k < tl.length
      · obtain ⟨g, x, rfl, hcl⟩ := (HL.out.keeps (HKW.out.trans hB.out.kp)).addr (by omega)
        obtain ⟨t0, t1, t2, t3⟩ := lies_tok hcl k hlt
        have hwy := bo_ways (by have := HTL.out; omega) (by have := HTL.out; omega) HR.out _ (HTI.out k (by have := HTL.out; omega) hlt)
        have hm9 := List.getElem_mem hlt
        have hat := (HA.out _ hm9).keeps (HKW.out.trans hB.out.kp)
        have htx := HT.out _ hm9
        have hna := HN.out _ hm9
        clear hcl hm9 HR
        generalize tl[k] = p at *
        obtain ⟨⟨kd, nm, at', tx⟩, av⟩ := p
        simp only at t0 t1 t2 t3 hat htx hna hwy
        obtain ⟨w1y, w3y, wey⟩ := hwy
        have HW1 := hide w1y
        have HW3 := hide w3y
        have HWE := hide wey
        clear w1y w3y wey
        obtain ⟨ao, ac, hav, _, _⟩ := hat.form
        subst hav
        have hkA : Keeps [] wo (wo.alloc (.cells #[.int .i64 kd, .string ⟨nm.toArray⟩, .slice ao at'.length ac, .string ⟨tx.toArray⟩] 117)) := (Keeps.refl [] wo).alloc _
        have hbA := heap_alloc_new wo (.cells #[.int .i64 kd, .string ⟨nm.toArray⟩, .slice ao at'.length ac, .string ⟨tx.toArray⟩] 117)
        have HB2 := hide (hB.out.keeps hkA)
        have HBA := hide hbA
        have HKA := hide hkA
        have HAT := hide hat
        have hll : l.length ≤ 1000000 := by have := hB.out.len; omega
        clear hbA hkA hat
        by_cases hk1 : kd = 1
        · subst hk1
          have hj := hide (joinTextX_any w.heap.size c o l (40000 * k) tx _ HB2.out.out HB2.out.txt hll HB2.out.kp.size (by omega))
          have hnx := HW1.out rfl
          have HNX := hide hnx
          clear hnx HW1 HW3 HWE
          unfold txV at hj
          go_wp2_with fail
          refine hj.out.mono ?_
          rintro e w2 h2
          obtain ⟨o', c', l', rfl, hmp, hB3⟩ := HB2.out.joined h2 htx
          have HB3 := hide hB3
          have hnx := HNX.out
          rw [← hmp] at hnx
          have HNX := hide hnx
          clear h2 hB3 hmp hnx
          go_wp2_with fail
          refine ⟨⟨k + 1, l', o', c', by go_num, by omega, by omega, rfl, HB3, HNX⟩, ?_⟩
          simp [intOf]
          omega
        · by_cases hk3 : kd = 3
          · subst hk3
            obtain ⟨F, hF⟩ : ∃ F, lastI os nm = F := ⟨_, rfl⟩
            have hw3 := HW3.out rfl
            rw [hF] at hw3
            have HX3 := hide hw3
            have HF := hide (show dn (· == nm) (fun _ => false) os os.length os.length = F from by rw [← inner_dn]; exact hF)
            clear hF hw3 HW1 HWE HW3
            go_wp2_with fail
            go_loopw [11] (fun i wr => DownF os.length (dn (· == nm) (fun _ => false) os os.length) F i ∧ Hid (Keeps [] (wo.alloc (.cells #[.int .i64 3, .string ⟨nm.toArray⟩, .slice ao at'.length ac, .string ⟨tx.toArray⟩] 117)) wr)) (fun i _ => (intOf i + 1).toNat)
            case atStart => exact ⟨DownF.start _ (by go_num) (Nat.le_refl _) HF.out, hide (Keeps.refl _ _)⟩
            case round =>
              obtain ⟨hd, hkr⟩ := hrel
              rcases hd with ⟨rfl, hz⟩ | ⟨j, hj, rfl, hz⟩
              · have hfin := hide (HB2.out.keeps hkr.out)
                have hnx := hide (HX3.out.2 (by have h9 : os.length = F := hz; omega))
                clear hz HX3 HF
                go_wp2_with fail
                go_quiet (fail)
                go_wp2_with fail
                refine ⟨⟨k + 1, l, o, c, by go_num, by omega, by omega, rfl, hide ((hfin.out.keeps ((Keeps.refl [] wr).drewN _)).next (by omega)), hnx⟩, ?_⟩
                simp [intOf]
                omega
              · have hb2 := (hkr.out.block _ (lt_of_block HBA.out) List.not_mem_nil).trans HBA.out
                have n1 : wr.cell? ⟨wo.heap.size, 1, none⟩ = some (.string ⟨nm.toArray⟩) := cell_blk hb2 1
                obtain ⟨og, ox, rfl, hoc⟩ := ((HO.out.keeps (HB2.out.kp.trans hkr.out))).addr (by omega)
                have q0 := hoc _ _ (strCs_at os j hj)
                simp only [Nat.mul_one] at q0
                have hs := hide (dn_atX hj hz)
                clear hoc hb2 hz
                have hfin := hide (HB2.out.keeps hkr.out)
                have hkd := hkr
                generalize os[j] = q at *
                by_cases he : q = nm
                · have hse : ((⟨q.toArray⟩ : ByteArray).toList == (⟨nm.toArray⟩ : ByteArray).toList) = true := by rw [strEq]; simpa using he
                  have heb : (q == nm) = true := by simpa using he
                  have hjF : j = F := by have := hs.out; simpa [heb] using this
                  have hnx := hide (HX3.out.1 (by omega))
                  rw [← hjF] at hnx
                  clear he hs hjF HX3 HF
                  go_wp2_with fail
                  go_quiet (fail)
                  go_wp2_with fail
                  go_ret3
                  exact (hfin.out.keeps ((Keeps.refl [] wr).drewN _)).built hnx.out
                · have hse : ((⟨q.toArray⟩ : ByteArray).toList == (⟨nm.toArray⟩ : ByteArray).toList) = false := by rw [strEq]; simpa using he
                  have heb : (q == nm) = false := by simpa using he
                  have hed : decide (q = nm) = false := by simpa using he
                  have h7 := hide (show dn (· == nm) (fun _ => false) os os.length j = F from by have := hs.out; simpa [heb] using this)
                  clear he hs
                  go_wp2_with fail
                  go_quiet (fail)
                  go_wp2_with fail
                  refine ⟨⟨DownF.start j (by go_num) (by omega) h7.out, hide (hkd.out.trans ((Keeps.refl [] wr).drewN _))⟩, ?_⟩
                  simp [intOf]
          · have hcl9 := hide (closesX_any nm os oo oc (wo.alloc (.cells #[.int .i64 kd, .string ⟨nm.toArray⟩, .slice ao at'.length ac, .string ⟨tx.toArray⟩] 117)) ((HO.out.keeps HB2.out.kp)) (by omega))
            have hwe := HWE.out hk1 hk3
            obtain ⟨st, hst⟩ : ∃ st, closedL os nm = st := ⟨_, rfl⟩
            have hstl : st ≤ os.length := by rw [← hst]; exact closed_le os nm
            rw [hst] at hcl9 hwe
            have HE1 := hide hwe
            clear hst hwe HW1 HW3 HWE
            go_wp2_with fail
            refine hcl9.out.mono ?_
            rintro e w2 ⟨rfl, h9⟩
            subst h9
            by_cases hsl : st < os.length
            · have hnx := hide (HE1.out.1 hsl)
              clear HE1 hcl9
              go_wp2_with fail
              go_ret3
              exact HB2.out.built hnx.out
            · have hse : st = os.length := by omega
              have hwe := HE1.out.2 hsl
              have HE2 := hide hwe
              clear hwe hcl9 HE1
              subst hse
              by_cases h8 : os.length = 8
              · have e8 : ((os.length : Int) == 8) = true := by rw [h8]; rfl
                have hgo := hide (HB2.out.next (k' := k + 1) (by omega))
                have hnx := hide (HE2.out.1 h8)
                clear h8 HE2
                go_wp2_with fail
                refine ⟨⟨k + 1, l, o, c, by go_num, by omega, by omega, rfl, hgo, hnx⟩, ?_⟩
                simp [intOf]
                omega
              · have e8 : ((os.length : Int) == 8) = false := by simp; omega
                have hwe := HE2.out.2 h8
                have HE3 := hide hwe
                clear hwe HE2
                obtain ⟨i0, hi, hz0, hz1, hz2⟩ := info_parts info27
                obtain ⟨WW, hWW⟩ : ∃ WW, (wo.alloc (.cells #[.int .i64 kd, .string ⟨nm.toArray⟩, .slice ao at'.length ac, .string ⟨tx.toArray⟩] 117)) = WW := ⟨_, rfl⟩
                have hlen := pairCells_len at'
                have h1c := pair_one at'
                go_upto_region 19 with fail
                rw [hWW] at HB2 HBA HKA
                try rw [hWW]
                have m1 : WW.cell? ⟨wo.heap.size, 1, none⟩ = some (.string ⟨nm.toArray⟩) := cell_blk HBA.out 1
                have m2 : WW.cell? ⟨wo.heap.size, 2, none⟩ = some (.slice ao at'.length ac) := cell_blk HBA.out 2
                have hlw := lt_of_block HBA.out
                have hatW := hide (HAT.out.keeps HKA.out)
                have HWWx := hide hWW
                clear hWW
                go_cut [13] from 77 to 83 (fun pv wx => ∃ nb o3 c3, pv = .pointer (some ⟨nb, 0, none⟩) ∧ Hid (Made WW wx nb nm at' o3 c3))
                case rest =>
                  obtain ⟨nb, o3, c3, rfl, hM⟩ := hcut
                  have HB3 := hide (HB2.out.keeps hM.out.kp)
                  have d1 := cell_keeps hM.out.kp m1
                  have d2 := cell_keeps hM.out.kp m2
                  have n0 := cell_blk hM.out.blk 0
                  have n1 := cell_blk hM.out.blk 1
                  have n2 := cell_blk hM.out.blk 2
                  have n3 := cell_blk hM.out.blk 3
                  simp at n0 n1 n2 n3
                  obtain ⟨i4, hi4, hz04, hz14, hz24⟩ := info_parts info79
                  have hie := hide (isEmptyX_any nm)
                  have hBWW : w.heap.size ≤ WW.heap.size := HB2.out.kp.size
                  cases he : emptyN nm
                  · rw [he] at hie
                    obtain ⟨r, hr⟩ : ∃ r, bo ts m (k + 1) (os ++ [nm]) [] = r := ⟨_, rfl⟩
                    have hel := HE3.out.2 he r hr
                    have HEL := hide hel
                    have hb2 := hel.2.2.1
                    have hb3 := hel.2.2.2.1
                    obtain ⟨i5, hi5, hz05, hz15, hz25⟩ := info_parts info9x
                    have hosX := hide (HO.out.keeps HB3.out.kp)
                    have hs1 := strCs_one os
                    have hs2 : ∀ u ∈ ([.string ⟨nm.toArray⟩] : List Value), u.oneCell' = true := by intro u hu; simp at hu; subst hu; rfl
                    have hIC := hide (fun (w6 : World) (hk6 : Keeps [] wc w6) (o6 : Option Addr) (c6 : Nat) (h6 : Lies w6 (.slice o6 (os.length + 1) c6) (os.length + 1) 1 (strCs (os ++ [nm]))) => show Calls Tryz.prog 90 #[.slice (some ⟨g, x, none⟩) tl.length vc, .int .i64 ((k : Int) + 1), .slice o6 (os.length + 1) c6] w6 fun e w' => BuiltX w6 r e w' from by
                      have h9 := HI.out (k + 1) (by omega) (by omega) w6 ((HKW.out.trans HB3.out.kp).trans hk6) (os ++ [nm]) o6 c6 (by simpa using h6) (by simp; omega)
                      rw [hr] at h9
                      simpa using h9)
                    have hb3l : r.2.1 ≤ tl.length := by have := HTL.out; omega
                    clear hel hr HE3 HI
                    obtain ⟨r1, r2, r3⟩ := r
                    simp only at hb2 hb3 HEL hIC hb3l
                    go_wp2_with fail
                    refine (hie.out _).mono ?_
                    rintro e w8 ⟨rfl, h8⟩
                    obtain rfl : wc = w8 := h8.symm
                    go_upto_region 22 with fail
                    obtain ⟨wx, hwx⟩ : ∃ wx, wx = wc := ⟨_, rfl⟩
                    subst hwx
                    go_cut [14, 15, 16] from 91 to 104 (fun v14 v15 v16 wz => ∃ o7 c7, v14 = .slice o7 r1.length c7 ∧ v15 = .int .i64 r2 ∧ v16 = .int .i64 r3 ∧ Hid (Ns wz (fun g => wx.heap.size ≤ g) (.slice o7 r1.length c7) r1) ∧ Hid (Keeps [] wx wz))
                    case first =>
                      have hS0 : SBX wx wo.heap.size (.string ⟨nm.toArray⟩) (.slice ao at'.length ac) wx := SBX.of d1 d2 (Keeps.refl [] wx)
                      have hrA := hide (row_noneX wx wx.heap.size 9 1 (Nat.le_refl _))
                      have hrB := hide ((row_noneX wx wx.heap.size 9 1 (Nat.le_refl _)).alloc (.cells #[.string ⟨nm.toArray⟩] 9))
                      have hrC := hide (show ((wx.alloc (.cells #[.string ⟨nm.toArray⟩] 9)).alloc (.cells #[] 9)).ownsRow wx.heap.size 9 1 (.slice (some ⟨wx.heap.size + 1, 0, none⟩) 0 0) 0 [] from by have h9 := row_noneX (wx.alloc (.cells #[.string ⟨nm.toArray⟩] 9)) wx.heap.size 9 1 (by simp); simpa using h9)
                      go_region_held3 (SBX wx wo.heap.size (.string ⟨nm.toArray⟩) (.slice ao at'.length ac)) ((first | assumption | (refine SBX.of d1 d2 ?_; first | exact hkx7 | exact hkx6 | exact hkx.alloc _ | exact hkx | exact (Keeps.refl [] wx) | exact (Keeps.refl [] wx).drew | exact (‹SBX wx wo.heap.size _ _ _›).1.alloc _ | exact (‹SBX wx wo.heap.size _ _ _›).1.drewN _)))
                        (first
                          | (refine step_append_any rfl _ _ 62 (by rfl) wx.heap.size 9 i5 _ 1 16 Tryz.underlying62 hi5 hz05 hz15 hz25 (by kernel_rfl) (by decide) (.slice (some ⟨wx.heap.size, 0, none⟩) 0 0) 0 [] (by rfl) hrA.out.drew _ os.length (strCs os) (by rfl) (hosX.out.keeps (‹SBX wx wo.heap.size _ _ _›).1) hs1 (by unfold maxLen; omega) (by omega) (‹SBX wx wo.heap.size _ _ _›).1.size ?_; intro v5 w5 ho5 hg5 hw5; try simp only [Nat.zero_add, List.nil_append] at ho5; obtain ⟨o5, c5, hv5⟩ := row_form ho5; subst hv5; have hkA5 : Keeps [wx.heap.size] (wx.alloc (.cells #[] 9)) w5 := ((Keeps.refl _ _).drew).grown hg5 (fun i e => .inl (by simp [Value.ownBlock] at e ⊢; exact e.symm)); have hkx : Keeps [] wx w5 := keeps_on ((Keeps.refl [] wx).alloc _) hkA5 (fun g hg hlt => by simp at hg; omega))
                          | (refine step_append_any rfl _ _ 62 (by rfl) wx.heap.size 9 i5 _ 1 16 Tryz.underlying62 hi5 hz05 hz15 hz25 (by kernel_rfl) (by decide) (.slice (some ⟨wx.heap.size, 0, none⟩) 0 0) 0 [] (by rfl) hrB.out.drew _ os.length (strCs os) (by rfl) (hosX.out.keeps (‹SBX wx wo.heap.size _ _ _›).1) hs1 (by unfold maxLen; omega) (by omega) (‹SBX wx wo.heap.size _ _ _›).1.size ?_; intro v5 w5 ho5 hg5 hw5; try simp only [Nat.zero_add, List.nil_append] at ho5; obtain ⟨o5, c5, hv5⟩ := row_form ho5; subst hv5; have hkA5 : Keeps [wx.heap.size] ((wx.alloc (.cells #[] 9)).alloc (.cells #[.string ⟨nm.toArray⟩] 9)) w5 := ((Keeps.refl _ _).drew).grown hg5 (fun i e => .inl (by simp [Value.ownBlock] at e ⊢; exact e.symm)); have hkx : Keeps [] wx w5 := keeps_on (((Keeps.refl [] wx).alloc _).alloc _) hkA5 (fun g hg hlt => by simp at hg; omega); have hl9 : Lies w5 (.slice (some ⟨wx.heap.size + 1, 0, none⟩) 1 1) 1 1 [.string ⟨nm.toArray⟩] := lies_litX ((hkA5.block _ (by simp) (by simp)).trans (two_sndX wx _ _)) rfl (by unfold maxLen; omega))
                          | (refine step_append_any rfl _ _ 62 (by rfl) wx.heap.size 9 i5 _ 1 16 Tryz.underlying62 hi5 hz05 hz15 hz25 (by kernel_rfl) (by decide) (.slice (some ⟨wx.heap.size + 1, 0, none⟩) 0 0) 0 [] (by rfl) hrC.out.drew _ os.length (strCs os) (by rfl) (hosX.out.keeps (‹SBX wx wo.heap.size _ _ _›).1) hs1 (by unfold maxLen; omega) (by omega) (‹SBX wx wo.heap.size _ _ _›).1.size ?_; intro v5 w5 ho5 hg5 hw5; try simp only [Nat.zero_add, List.nil_append] at ho5; obtain ⟨o5, c5, hv5⟩ := row_form ho5; subst hv5; have hkA5 : Keeps [wx.heap.size + 1] ((wx.alloc (.cells #[.string ⟨nm.toArray⟩] 9)).alloc (.cells #[] 9)) w5 := ((Keeps.refl _ _).drew).grown hg5 (fun i e => .inl (by simp [Value.ownBlock] at e ⊢; exact e.symm)); have hkx : Keeps [] wx w5 := keeps_on (((Keeps.refl [] wx).alloc _).alloc _) hkA5 (fun g hg hlt => by simp at hg; omega); have hl9 : Lies w5 (.slice (some ⟨wx.heap.size, 0, none⟩) 1 1) 1 1 [.string ⟨nm.toArray⟩] := lies_litX ((hkA5.block _ (by simp; try omega) (by simp)).trans (two_fstX wx _ _)) rfl (by unfold maxLen; omega))
                          | (refine step_append_any rfl _ _ 62 (by rfl) wx.heap.size 9 i5 _ 1 16 Tryz.underlying62 hi5 hz05 hz15 hz25 (by kernel_rfl) (by decide) (.slice o5 os.length c5) os.length (strCs os) (by rfl) ho5 _ 1 [.string ⟨nm.toArray⟩] (by rfl) hl9 hs2 (by unfold maxLen; omega) (by omega) (‹SBX wx wo.heap.size _ _ _›).1.size ?_; intro v6 w6 ho6 hg6 hw6; obtain ⟨o6, c6, hv6⟩ := row_form ho6; subst hv6; rw [strCs_snoc] at ho6; have hkx6 : Keeps [] wx w6 := keeps_on hkx ((Keeps.refl (Value.slice o5 os.length c5).ownBlock.toList _).grown hg6 (fun i e => .inl (by simp [e]))) (fun g hg hlt => by have := (ho5.lt g (by simpa using hg)).1; omega); have hL6 := Lies.of_row ho6)
                          | (refine step_append_any rfl _ _ 62 (by rfl) wx.heap.size 9 i5 _ 1 16 Tryz.underlying62 hi5 hz05 hz15 hz25 (by kernel_rfl) (by decide) (.slice o5 os.length c5) os.length (strCs os) (by rfl) (ho5.alloc _) _ 1 [.string ⟨nm.toArray⟩] (by rfl) (lies_litX (heap_alloc_new w5 _) rfl (by unfold maxLen; omega)) hs2 (by unfold maxLen; omega) (by omega) (‹SBX wx wo.heap.size _ _ _›).1.size ?_; intro v6 w6 ho6 hg6 hw6; obtain ⟨o6, c6, hv6⟩ := row_form ho6; subst hv6; rw [strCs_snoc] at ho6; have hkx6 : Keeps [] wx w6 := keeps_on (hkx.alloc _) ((Keeps.refl (Value.slice o5 os.length c5).ownBlock.toList _).grown hg6 (fun i e => .inl (by simp [e]))) (fun g hg hlt => by have := (ho5.lt g (by simpa using hg)).1; omega); have hL6 := Lies.of_row ho6)
                          | (go_at_call 90; refine (hIC.out w6 hkx6 o6 c6 hL6).mono ?_; rintro e w7 ⟨o7, c7, rfl, hns7, hk7⟩; have hkx7 : Keeps [] wx w7 := hkx6.trans hk7; have hns8 := hns7.mono (Q := fun g => wx.heap.size ≤ g) (fun g _ hg => Nat.le_trans hkx6.size hg)))
                      all_goals go_wp2_with fail
                      all_goals go_meet
                      all_goals exact ⟨o7, c7, rfl, rfl, rfl, hide hns8, hide hkx7⟩
                    case rest =>
                      obtain ⟨o7, c7, rfl, rfl, rfl, hNs, hKz⟩ := hcut
                      have hbz := (hKz.out.block _ (lt_of_block hM.out.blk) List.not_mem_nil).trans hM.out.blk
                      have f3 := free_blk hbz 3
                      have e3 := cell_blk hbz 3
                      simp at e3
                      go_upto_region 24 with fail
                      obtain ⟨W8, hW8⟩ : ∃ W8, wc.setCell ⟨nb, 3, none⟩ (.slice o7 r1.length c7) = W8 := ⟨_, rfl⟩
                      rw [hW8]
                      have hb8 : W8.heap[nb]? = some (.cells #[.string ⟨nm.toArray⟩, .slice o3 at'.length c3, .string ⟨#[]⟩, .slice o7 r1.length c7] 45 (0, 0)) := by rw [← hW8]; simp [World.setCell, Array.getElem?_modify, hbz]
                      have hks8 : Keeps [nb] wc W8 := by rw [← hW8]; exact (Keeps.refl [nb] wc).setCell (.inl (by simp)) _
                      have hkW8 : Keeps [] WW W8 := by rw [← hW8]; exact (hM.out.kp.trans hKz.out).setCell (.inr hM.out.ge) _
                      have HB8 := hide (HB2.out.keeps hkW8)
                      have hr8 : W8.ownsRow WW.heap.size 52 2 (.slice o3 at'.length c3) at'.length (pairCells at') := hks8.owns (hKz.out.owns hM.out.row (fun _ _ => List.not_mem_nil)) (fun g hg hm => by simp at hm; subst hm; exact block_ne (hKz.out.owns hM.out.row (fun _ _ => List.not_mem_nil)) hbz (by decide) hg)
                      have hnbx := lt_of_block hM.out.blk
                      have HQ := hide (made_q HB2.out.out hBWW hr8)
                      have hWx : WW.heap.size ≤ wx.heap.size := hM.out.kp.size
                      have HNK := hide ((hNs.out.keeps hks8 (fun g hg hm => by simp at hm; omega)).mono (Q := DoneB w.heap.size (Value.slice o l.length c).ownBlock.toList) (fun g _ hg => ⟨by omega, fun hm => by have := (HB2.out.out.row.lt g (by simpa using hm)).2; omega⟩))
                      have g0 := cell_blk hb8 0
                      have g1 := cell_blk hb8 1
                      have g2 := cell_blk hb8 2
                      have g3 := cell_blk hb8 3
                      simp at g0 g1 g2 g3
                      clear hbz f3 e3 hb8 hks8 hkW8 hr8 hW8 hNs d1 d2 n0 n1 n2 n3 m1 m2
                      go_wp2_with (at_builtin; refine wpList_append_own_at9 _ rfl _ _ 29 rfl w.heap.size 45 i4 _ 4 80 Tryz.underlying29 hi4 hz04 hz14 hz24 (by kernel_rfl) (by decide) (.slice o l.length c) l.length (pnsCells l) rfl (HB8.out.out.row.alloc _) ⟨W8.heap.size, 0, none⟩ 1 1 [.string ⟨nm.toArray⟩, .slice o3 at'.length c3, .string ⟨#[]⟩, .slice o7 r1.length c7] rfl rfl (lit_cells W8 #[.string ⟨nm.toArray⟩, .slice o3 at'.length c3, .string ⟨#[]⟩, .slice o7 r1.length c7] 45) (by intro u hu; simp at hu; rcases hu with rfl | rfl | rfl | rfl <;> rfl) (by unfold maxLen; omega) (by omega) (by have := HB8.out.kp.size; simp; omega) ?_)
                      intro v4 w4 ho4 hg4 hw4
                      have hk4 : Keeps (Value.slice o l.length c).ownBlock.toList W8 w4 := ((Keeps.refl _ W8).alloc _).grown hg4 (fun i e => .inl (by simp [e]))
                      obtain ⟨o4, c4, rfl, hB4⟩ := HB8.out.push (k' := r2) (q := ⟨.mk nm at' [] r1, .slice o3 at'.length c3, .slice o7 r1.length c7⟩) hk4 (by omega) ho4 (by rcases hw4 with h9 | h9; exact .inl h9; exact .inr ⟨_, h9, by simp⟩) HQ.out HNK.out rfl
                      have HB4 := hide hB4
                      clear hB4 hk4 ho4 hg4 hw4
                      by_cases hlo : r3 < os.length
                      · have hnx := HEL.out.1 hlo
                        rw [← nd_push _ ⟨.mk nm at' [] r1, .slice o3 at'.length c3, .slice o7 r1.length c7⟩] at hnx
                        have HNX := hide hnx
                        clear hnx HEL
                        go_wp2_with fail
                        go_ret3
                        exact HB4.out.built HNX.out
                      · have hnx := HEL.out.2.1 hlo
                        rw [← nd_push _ ⟨.mk nm at' [] r1, .slice o3 at'.length c3, .slice o7 r1.length c7⟩] at hnx
                        have HNX := hide hnx
                        clear hnx HEL
                        go_wp2_with fail
                        refine ⟨⟨r2, _, o4, c4, rfl, by omega, hb3l, rfl, HB4, HNX⟩, ?_⟩
                        simp [intOf]
                        omega
                  · rw [he] at hie
                    have hnx := HE3.out.1 he
                    have HNX := hide hnx
                    have HQ := hide (made_q HB2.out.out hBWW hM.out.row)
                    clear hnx HE3 HI
                    go_wp2_with fail
                    refine (hie.out _).mono ?_
                    rintro e w8 ⟨rfl, h8⟩
                    obtain rfl : wc = w8 := h8.symm
                    go_wp2_with (at_builtin; refine wpList_append_own_at9 _ rfl _ _ 29 rfl w.heap.size 45 i4 _ 4 80 Tryz.underlying29 hi4 hz04 hz14 hz24 (by kernel_rfl) (by decide) (.slice o l.length c) l.length (pnsCells l) rfl (HB3.out.out.row.alloc _) ⟨wc.heap.size, 0, none⟩ 1 1 [.string ⟨nm.toArray⟩, .slice o3 at'.length c3, .string ⟨#[]⟩, .slice none 0 0] rfl rfl (lit_cells wc #[.string ⟨nm.toArray⟩, .slice o3 at'.length c3, .string ⟨#[]⟩, .slice none 0 0] 45) (by intro u hu; simp at hu; rcases hu with rfl | rfl | rfl | rfl <;> rfl) (by unfold maxLen; omega) (by omega) (by have := HB3.out.kp.size; simp; omega) ?_)
                    intro v4 w4 ho4 hg4 hw4
                    have hk4 : Keeps (Value.slice o l.length c).ownBlock.toList wc w4 := ((Keeps.refl _ wc).alloc _).grown hg4 (fun i e => .inl (by simp [e]))
                    obtain ⟨o4, c4, rfl, hB4⟩ := HB3.out.push (k' := k + 1) (q := ⟨.mk nm at' [] [], .slice o3 at'.length c3, .slice none 0 0⟩) hk4 (by omega) ho4 (by rcases hw4 with h9 | h9; exact .inl h9; exact .inr ⟨_, h9, by simp⟩) HQ.out (Ns.nil _ _ none 0 (by simp [maxLen])) rfl
                    have HB4 := hide hB4
                    clear hB4 hk4 ho4 hg4 hw4
                    have hnx := HNX.out
                    rw [← nd_push _ ⟨.mk nm at' [] [], .slice o3 at'.length c3, .slice none 0 0⟩] at hnx
                    have HN9 := hide hnx
                    clear hnx
                    go_wp2_with fail
                    refine ⟨⟨k + 1, _, o4, c4, by go_num, by omega, by omega, rfl, HB4, HN9⟩, ?_⟩
                    simp [intOf]
                    omega
                have hS0 : SBX WW wo.heap.size (.string ⟨nm.toArray⟩) (.slice ao at'.length ac) WW := SBX.of m1 m2 (Keeps.refl [] WW)
                have hrA := hide (row_noneX WW WW.heap.size 52 2 (Nat.le_refl _))
                have hrB := hide ((row_noneX WW WW.heap.size 52 2 (Nat.le_refl _)).alloc (.cells #[.string ⟨#[]⟩, .slice none 0 0, .string ⟨#[]⟩, .slice none 0 0] 45))
                have hrC := hide (show ((WW.alloc (.cells #[.string ⟨#[]⟩, .slice none 0 0, .string ⟨#[]⟩, .slice none 0 0] 45)).alloc (.cells #[] 52)).ownsRow WW.heap.size 52 2 (.slice (some ⟨WW.heap.size + 1, 0, none⟩) 0 0) 0 [] from by have h9 := row_noneX (WW.alloc (.cells #[.string ⟨#[]⟩, .slice none 0 0, .string ⟨#[]⟩, .slice none 0 0] 45)) WW.heap.size 52 2 (by simp); simpa using h9)
                go_region_held3 (SBX WW wo.heap.size (.string ⟨nm.toArray⟩) (.slice ao at'.length ac)) ((first | assumption | (refine SBX.of m1 m2 ?_; first | exact (Keeps.refl [] WW) | exact (Keeps.refl [] WW).drew | exact hkx | exact hkx.alloc _ | exact set_fourX hkx (.inr hge45) _ _ _ _ | exact (‹SBX WW wo.heap.size _ _ _›).1.alloc _ | exact (‹SBX WW wo.heap.size _ _ _›).1.drewN _)))
                  (first
                    | (refine step_append_any rfl _ _ 43 (by rfl) WW.heap.size 52 i0 _ 2 32 Tryz.underlying43 hi hz0 hz1 hz2 (by kernel_rfl) (by decide) (.slice (some ⟨WW.heap.size, 0, none⟩) 0 0) 0 [] (by rfl) hrA.out.drew _ at'.length (pairCells at') (by rfl) (hatW.out.keeps (‹SBX WW wo.heap.size _ _ _›).1) h1c (by unfold maxLen; omega) (by omega) (‹SBX WW wo.heap.size _ _ _›).1.size ?_; intro v3 w3 ho3 hg3 hw3; obtain ⟨o3, c3, hv3⟩ := row_form ho3; subst hv3; try simp only [Nat.zero_add, List.nil_append] at ho3; have hkA3 : Keeps [WW.heap.size] (WW.alloc (.cells #[] 52)) w3 := ((Keeps.refl _ _).drew).grown hg3 (fun i e => .inl (by simp [Value.ownBlock] at e ⊢; exact e.symm)); have hkx : Keeps [] WW w3 := keeps_on ((Keeps.refl [] WW).alloc _) hkA3 (fun g hg hlt => by simp at hg; omega))
                    | (refine step_append_any rfl _ _ 43 (by rfl) WW.heap.size 52 i0 _ 2 32 Tryz.underlying43 hi hz0 hz1 hz2 (by kernel_rfl) (by decide) (.slice (some ⟨WW.heap.size, 0, none⟩) 0 0) 0 [] (by rfl) hrB.out.drew _ at'.length (pairCells at') (by rfl) (hatW.out.keeps (‹SBX WW wo.heap.size _ _ _›).1) h1c (by unfold maxLen; omega) (by omega) (‹SBX WW wo.heap.size _ _ _›).1.size ?_; intro v3 w3 ho3 hg3 hw3; obtain ⟨o3, c3, hv3⟩ := row_form ho3; subst hv3; try simp only [Nat.zero_add, List.nil_append] at ho3; have hkA3 : Keeps [WW.heap.size] ((WW.alloc (.cells #[] 52)).alloc (.cells #[.string ⟨#[]⟩, .slice none 0 0, .string ⟨#[]⟩, .slice none 0 0] 45)) w3 := ((Keeps.refl _ _).drew).grown hg3 (fun i e => .inl (by simp [Value.ownBlock] at e ⊢; exact e.symm)); have hkx : Keeps [] WW w3 := keeps_on (((Keeps.refl [] WW).alloc _).alloc _) hkA3 (fun g hg hlt => by simp at hg; omega); have hb45 : w3.heap[WW.heap.size + 1]? = some (.cells #[.string ⟨#[]⟩, .slice none 0 0, .string ⟨#[]⟩, .slice none 0 0] 45 (0, 0)) := (hkA3.block _ (by simp) (by simp)).trans (two_sndX WW _ _); have hge45 : WW.heap.size ≤ WW.heap.size + 1 := Nat.le_succ _; have y0 := cell_blk hb45 0; have z0 := free_blk hb45 0; have y1 := cell_blk hb45 1; have z1 := free_blk hb45 1; have y2 := cell_blk hb45 2; have z2 := free_blk hb45 2; have y3 := cell_blk hb45 3; have z3 := free_blk hb45 3)
                    | (refine step_append_any rfl _ _ 43 (by rfl) WW.heap.size 52 i0 _ 2 32 Tryz.underlying43 hi hz0 hz1 hz2 (by kernel_rfl) (by decide) (.slice (some ⟨WW.heap.size + 1, 0, none⟩) 0 0) 0 [] (by rfl) hrC.out.drew _ at'.length (pairCells at') (by rfl) (hatW.out.keeps (‹SBX WW wo.heap.size _ _ _›).1) h1c (by unfold maxLen; omega) (by omega) (‹SBX WW wo.heap.size _ _ _›).1.size ?_; intro v3 w3 ho3 hg3 hw3; obtain ⟨o3, c3, hv3⟩ := row_form ho3; subst hv3; try simp only [Nat.zero_add, List.nil_append] at ho3; have hkA3 : Keeps [WW.heap.size + 1] ((WW.alloc (.cells #[.string ⟨#[]⟩, .slice none 0 0, .string ⟨#[]⟩, .slice none 0 0] 45)).alloc (.cells #[] 52)) w3 := ((Keeps.refl _ _).drew).grown hg3 (fun i e => .inl (by simp [Value.ownBlock] at e ⊢; exact e.symm)); have hkx : Keeps [] WW w3 := keeps_on (((Keeps.refl [] WW).alloc _).alloc _) hkA3 (fun g hg hlt => by simp at hg; omega); have hb45 : w3.heap[WW.heap.size]? = some (.cells #[.string ⟨#[]⟩, .slice none 0 0, .string ⟨#[]⟩, .slice none 0 0] 45 (0, 0)) := (hkA3.block _ (by simp; try omega) (by simp)).trans (two_fstX WW _ _); have hge45 : WW.heap.size ≤ WW.heap.size := Nat.le_refl _; have y0 := cell_blk hb45 0; have z0 := free_blk hb45 0; have y1 := cell_blk hb45 1; have z1 := free_blk hb45 1; have y2 := cell_blk hb45 2; have z2 := free_blk hb45 2; have y3 := cell_blk hb45 3; have z3 := free_blk hb45 3))
                all_goals go_wp2_with fail
                all_goals go_meet
                all_goals first
                  | exact ⟨_, o3, c3, rfl, hide (made_new ho3 hkx)⟩
                  | exact ⟨_, o3, c3, rfl, hide (made_set hb45 hge45 ho3 hkx)⟩
      · have he : k = tl.length := by omega
        subst he
        have hnx := HR.out
        rw [bo_end (by have := HTL.out; omega)] at hnx
        have HNX := hide hnx
        clear hnx HR
        go_wp2_with fail
        go_ret3
        exact hB.out.built HNX.out
end Go.Proofs.YtlcljanibjdejaaGreat
namespace Go.Proofs.YtlcljanibjdejaaGreat
open Go.RowKit
set_option maxHeartbeats 400000 in
theorem between_any (n a b : Int) (w : World) :
    Calls Tryz.prog 128 #[.int .i64 n, .int .i64 a, .int .i64 b] w fun e w' => e = .returned (.bool (decide (a ≤ n) && decide (n ≤ b))) ∧ w' = w := by
  by_cases h1 : a ≤ n
  · go_enter Tryz.func128, Tryz.ntmps128
    go_wp2
    go_ret
    exact ⟨ret_bool (by simp [h1]), rfl⟩
  · go_enter Tryz.func128, Tryz.ntmps128
    go_wp2
    go_ret
    exact ⟨ret_bool (by rw [decide_eq_false (show ¬ a ≤ n from by omega)]; rfl), rfl⟩
set_option maxHeartbeats 400000 in
theorem startsAt_any (s : ByteArray) (k : Nat) (p : ByteArray) (hs : s.size ≤ 3000) (hk : k ≤ s.size) (hp : p.size ≤ 3000) (w : World) :
    Calls Tryz.prog 108 #[.string s, .int .i64 k, .string p] w fun e w' => e = .returned (.bool (stAt s k p.data.toList)) ∧ w' = w := by
  by_cases h1 : k + p.size ≤ s.size
  · rw [← stAt_eq s k p]
    go_enter Tryz.func108, Tryz.ntmps108
    go_wp2
    go_ret
    exact ⟨rfl, rfl⟩
  · rw [stAt_short s k p (by omega) hk]
    go_enter Tryz.func108, Tryz.ntmps108
    go_wp2
    go_ret
    exact ⟨rfl, rfl⟩
set_option maxHeartbeats 1000000 in
theorem rdigit_any (c : UInt8) (base : Nat) (hb : base = 10 ∨ base = 16) (w : World) :
    Calls Tryz.prog 263 #[.int .u8 c.toNat, .int .i64 base] w fun e w' => e = .returned (.int .i64 (if base ≤ digV c then -1 else digV c)) ∧ w' = w := by
  have hc : c.toNat < 256 := UInt8.toNat_lt c
  obtain ⟨v, hv⟩ : ∃ v, digV c = v := ⟨_, rfl⟩
  have hv' := hv
  rw [hv]
  clear hv
  unfold digV at hv'
  generalize c.toNat = n at *
  rcases (show (48 ≤ n ∧ n ≤ 57) ∨ (97 ≤ n ∧ n ≤ 102) ∨ (65 ≤ n ∧ n ≤ 70) ∨ n < 48 ∨ (57 < n ∧ n < 65) ∨ (70 < n ∧ n < 97) ∨ 102 < n from by omega) with h | h | h | h | h | h | h
  · rw [if_pos (by omega)] at hv'
    subst hv'
    rcases hb with rfl | rfl
    all_goals
      rw [if_neg (by omega)]
      go_enter Tryz.func263, Tryz.ntmps263
      go_wp2
      go_ret
      exact ⟨ret_int (by omega), rfl⟩
  · rw [if_neg (by omega), if_pos (by omega)] at hv'
    subst hv'
    rcases hb with rfl | rfl
    · rw [if_pos (by omega)]
      go_enter Tryz.func263, Tryz.ntmps263
      go_wp2
      go_ret
      exact ⟨ret_int (by omega), rfl⟩
    · rw [if_neg (by omega)]
      go_enter Tryz.func263, Tryz.ntmps263
      go_wp2
      go_ret
      exact ⟨ret_int (by omega), rfl⟩
  · rw [if_neg (by omega), if_neg (by omega), if_pos (by omega)] at hv'
    subst hv'
    rcases hb with rfl | rfl
    · rw [if_pos (by omega)]
      go_enter Tryz.func263, Tryz.ntmps263
      go_wp2
      go_ret
      exact ⟨ret_int (by omega), rfl⟩
    · rw [if_neg (by omega)]
      go_enter Tryz.func263, Tryz.ntmps263
      go_wp2
      go_ret
      exact ⟨ret_int (by omega), rfl⟩
  all_goals
    rw [if_neg (by omega), if_neg (by omega), if_neg (by omega)] at hv'
    subst hv'
    rcases hb with rfl | rfl
    all_goals
      rw [if_pos (by omega)]
      go_enter Tryz.func263, Tryz.ntmps263
      go_wp2
      go_ret
      exact ⟨ret_int (by omega), rfl⟩
theorem all_bytesR {p : UInt8 → Prop} [DecidablePred p] (h : ∀ n : Fin 256, p ⟨⟨n⟩⟩) (c : UInt8) : p c := by
  have := h c.toBitVec.toFin
  exact this
theorem white_eqR : ∀ c : UInt8, whiteB c = (((c.toNat : Int) == 32) || ((decide ((9 : Int) ≤ (c.toNat : Int)) && decide ((c.toNat : Int) ≤ 13)) && ((c.toNat : Int) != 11))) := all_bytesR (by decide +kernel)
theorem letter_eqR : ∀ c : UInt8, letterB c = ((decide ((97 : Int) ≤ (c.toNat : Int)) && decide ((c.toNat : Int) ≤ 122)) || (decide ((65 : Int) ≤ (c.toNat : Int)) && decide ((c.toNat : Int) ≤ 90))) := all_bytesR (by decide +kernel)
set_option maxHeartbeats 1000000 in
theorem isWhite_any (c : UInt8) (w : World) : Calls Tryz.prog 109 #[.int .u8 c.toNat] w fun e w' => e = .returned (.bool (whiteB c)) ∧ w' = w := by
  rw [white_eqR]
  have hb := hide (fun w => between_any (c.toNat : Int) 9 13 w)
  have hc : c.toNat < 256 := UInt8.toNat_lt c
  generalize (decide ((9 : Int) ≤ (c.toNat : Int)) && decide ((c.toNat : Int) ≤ 13)) = b at *
  generalize c.toNat = n at *
  cases h1 : ((n : Int) == 32) <;> cases b <;> cases h2 : ((n : Int) != 11)
  all_goals
    go_enter Tryz.func109, Tryz.ntmps109
    go_wp2_with (go_at_call 128; refine (hb.out _).mono ?_; rintro e w' ⟨rfl, rfl⟩)
    go_ret
    exact ⟨rfl, rfl⟩
set_option maxHeartbeats 1000000 in
theorem isLetter_any (c : UInt8) (w : World) : Calls Tryz.prog 107 #[.int .u8 c.toNat] w fun e w' => e = .returned (.bool (letterB c)) ∧ w' = w := by
  rw [letter_eqR]
  have hb := hide (fun w => between_any (c.toNat : Int) 97 122 w)
  have hb2 := hide (fun w => between_any (c.toNat : Int) 65 90 w)
  have hc : c.toNat < 256 := UInt8.toNat_lt c
  generalize (decide ((97 : Int) ≤ (c.toNat : Int)) && decide ((c.toNat : Int) ≤ 122)) = b at *
  generalize (decide ((65 : Int) ≤ (c.toNat : Int)) && decide ((c.toNat : Int) ≤ 90)) = b2 at *
  generalize c.toNat = n at *
  cases b
  · go_enter Tryz.func107, Tryz.ntmps107
    go_wp2_with fail
    refine (hb.out _).mono ?_
    rintro e w' ⟨rfl, rfl⟩
    go_wp2_with fail
    refine (hb2.out _).mono ?_
    rintro e w' ⟨rfl, rfl⟩
    go_wp2_with fail
    go_ret
    exact ⟨by simp, rfl⟩
  · go_enter Tryz.func107, Tryz.ntmps107
    go_wp2_with fail
    refine (hb.out _).mono ?_
    rintro e w' ⟨rfl, rfl⟩
    go_wp2_with fail
    go_ret
    exact ⟨by simp, rfl⟩
theorem index_stepR (s : ByteArray) (k : Nat) (p : List UInt8) (hk : k < s.size) (h : stAt s k p = false) : Lib.index (s.data.toList.drop k) p = if Lib.index (s.data.toList.drop (k + 1)) p < 0 then -1 else Lib.index (s.data.toList.drop (k + 1)) p + 1 := by
  have hk' : k < s.data.toList.length := by rw [len_size]; exact hk
  rw [List.drop_eq_getElem_cons hk']
  rw [Lib.index]
  have h' : p.isPrefixOf (s.data.toList[k] :: s.data.toList.drop (k + 1)) = false := by
    unfold stAt at h
    rwa [List.drop_eq_getElem_cons hk'] at h
  have hge := Lib.index_ge (s.data.toList.drop (k + 1)) p
  rw [h']
  simp only [Bool.false_eq_true, if_false]
  by_cases hn : Lib.index (s.data.toList.drop (k + 1)) p < 0
  · have : Lib.index (s.data.toList.drop (k + 1)) p = -1 := by omega
    rw [this]; rfl
  · rw [if_neg hn]
    have : (Lib.index (s.data.toList.drop (k + 1)) p == -1) = false := by simp; omega
    rw [this]
    rfl
theorem index_atR {s : ByteArray} {k : Nat} {p : List UInt8} (h : stAt s k p = true) (hk : k < s.size) : Lib.index (s.data.toList.drop k) p = 0 := by
  have hk' : k < s.data.toList.length := by rw [len_size]; exact hk
  unfold stAt at h
  rw [List.drop_eq_getElem_cons hk'] at h ⊢
  rw [Lib.index, if_pos h]
theorem index_len' : ∀ (l p : List UInt8), 0 ≤ Lib.index l p → Lib.index l p + p.length ≤ l.length
  | [], p => by
    unfold Lib.index
    intro h
    cases p with
    | nil => simp
    | cons c p => simp at h
  | c :: l, p => by
    have ih := index_len' l p
    have hge := Lib.index_ge l p
    unfold Lib.index
    split
    · rename_i h
      intro _
      have : p <+: c :: l := by simpa using h
      have := this.length_le
      omega
    · split
      · intro h; omega
      · rename_i h
        intro _
        have h' : Lib.index l p ≠ -1 := by simpa using h
        have := ih (by omega)
        simp only [List.length_cons]
        omega
def nextIR (l p : List UInt8) (k : Nat) : Int := if Lib.index (l.drop k) p < 0 then -1 else (k : Int) + Lib.index (l.drop k) p
theorem index_shortR (s : ByteArray) (k : Nat) (p : List UInt8) (h : s.size < k + p.length) (hp : 0 < p.length) : Lib.index (s.data.toList.drop k) p < 0 := by
  by_cases h' : Lib.index (s.data.toList.drop k) p < 0
  · exact h'
  · have h2 := index_len' (s.data.toList.drop k) p (by omega)
    rw [List.length_drop, len_size] at h2
    omega
set_option maxHeartbeats 2000000 in
theorem nextOf_any (s p : ByteArray) (k0 : Nat) (w : World) (hs : s.size ≤ 3000) (hp : p.size ≤ 3000) (hp0 : 0 < p.size) (hk0 : k0 ≤ s.size) :
    Calls Tryz.prog 112 #[.string s, .int .i64 k0, .string p] w fun e w' => e = .returned (.int .i64 (nextIR s.data.toList p.data.toList k0)) ∧ w' = w := by
  obtain ⟨R, hR⟩ : ∃ R, nextIR s.data.toList p.data.toList k0 = R := ⟨_, rfl⟩
  rw [hR]
  have hpl := len_size p
  have HR := hide hR
  clear hR
  go_enter Tryz.func112, Tryz.ntmps112
  go_wp2_with fail
  go_loopw [1] (fun i wr => ∃ k : Nat, k ≤ s.size ∧ i = .int .i64 k ∧ wr = w ∧ Hid (nextIR s.data.toList p.data.toList k = R)) (fun i _ => s.size - (intOf i).toNat)
  case atStart => exact ⟨k0, hk0, rfl, rfl, HR.out⟩
  case round =>
    obtain ⟨k, hk, rfl, rfl, hH⟩ := hrel
    clear HR
    by_cases hle : k + p.size ≤ s.size
    · have hst := hide (fun w => startsAt_any s k p hs (by omega) hp w)
      have hin : (k : Int) + (p.size : Int) ≤ (s.size : Int) := by omega
      cases hb : stAt s k p.data.toList
      · rw [hb] at hst
        have hstep := index_stepR s k p.data.toList (by omega) hb
        have hN : Hid (nextIR s.data.toList p.data.toList (k + 1) = R) := by
          rw [← hH.out]
          unfold nextIR
          rw [hstep]
          have hge := Lib.index_ge (s.data.toList.drop (k + 1)) p.data.toList
          by_cases hn : Lib.index (s.data.toList.drop (k + 1)) p.data.toList < 0
          · rw [if_pos hn, if_pos hn]; rfl
          · rw [if_neg hn, if_neg hn, if_neg (by omega)]
            show _ = _
            omega
        clear hb hstep
        go_wp2_with (go_at_call 108; refine (hst.out _).mono ?_; rintro e w' ⟨rfl, rfl⟩)
        go_roundw
        case rel => exact ⟨k + 1, by omega, by go_num, by first | rfl | trivial, hN⟩
        case measure => simp [intOf]; omega
      · rw [hb] at hst
        have hx : R = (k : Int) := by
          rw [← hH.out]
          unfold nextIR
          have : Lib.index (s.data.toList.drop k) p.data.toList = 0 := index_atR hb (by omega)
          rw [this]
          simp
        subst hx
        clear hb hH
        go_wp2_with (go_at_call 108; refine (hst.out _).mono ?_; rintro e w' ⟨rfl, rfl⟩)
        go_ret
        exact ⟨by simp, rfl⟩
    · have hin : ¬ (k : Int) + (p.size : Int) ≤ (s.size : Int) := by omega
      have hx : R = -1 := by
        rw [← hH.out]
        unfold nextIR
        rw [if_pos (index_shortR s k _ (by omega) (by omega))]
      subst hx
      clear hH
      go_wp2_with fail
      go_ret
      exact ⟨by simp, rfl⟩
theorem row_form' {w : World} {B : Nat} {e : TypeId} {z : Nat} {v : Value} {n : Nat} {xs : List Value} (h : w.ownsRow B e z v n xs) : ∃ o c, v = .slice o n c := by
  rcases h.2 with ⟨rfl, h0⟩ | ⟨g, cap, cur, rfl, _⟩
  · exact ⟨none, 0, by rw [h0]⟩
  · exact ⟨_, _, rfl⟩
theorem lower_takeR (l : List UInt8) (k : Nat) (h : k < l.length) : lowerL (l.take (k + 1)) = lowerL (l.take k) ++ [lowB l[k]] := by
  unfold lowerL
  rw [List.take_succ_eq_append_getElem h, List.map_append]
  rfl
theorem big_eqR : ∀ c : UInt8, bigB c = (decide ((65 : Int) ≤ (c.toNat : Int)) && decide ((c.toNat : Int) ≤ 90)) := all_bytesR (by decide +kernel)
theorem low_addR : ∀ c : UInt8, bigB c = true → ((lowB c).toNat : Int) = (c.toNat : Int) + 32 := all_bytesR (by decide +kernel)
set_option maxHeartbeats 2000000 in
theorem fold_any (s : ByteArray) (w : World) (hs : s.size ≤ 3000) :
    Calls Tryz.prog 110 #[.string s] w fun e w' => e = .returned (.string ⟨(lowerL s.data.toList).toArray⟩) ∧ Keeps [] w w' := by
  obtain ⟨i0, hi, hz0, hz1, hz2⟩ := info_parts Tryz.info5
  have hln := len_size s
  go_enter Tryz.func110, Tryz.ntmps110
  go_wp2_with fail
  go_loopw [3, 4] (fun v i wr => ∃ j : Nat, j ≤ s.size ∧ i = .int .i64 j ∧ wr.ownsRow w.heap.size 5 1 v (lowerL (s.data.toList.take j)).length (Lib.byteCells (lowerL (s.data.toList.take j))) ∧ Keeps [] w wr) (fun _ i _ => s.size - (intOf i).toNat)
  case atStart => exact ⟨0, Nat.zero_le _, rfl, World.ownsRow_nil _ _ _ _, Keeps.refl _ _⟩
  case round =>
    obtain ⟨j, hj, rfl, ho, hk⟩ := hrel
    have hll : (lowerL (s.data.toList.take j)).length ≤ 3000 := by
      have h1 : (s.data.toList.take j).length ≤ s.data.toList.length := (List.take_sublist _ _).length_le
      unfold lowerL
      rw [List.length_map]
      omega
    by_cases hlt : j < s.size
    · have hlj : j < s.data.toList.length := by rw [hln]; exact hlt
      have HL := hide (lower_takeR s.data.toList j hlj)
      rw [show s.data.toList[j] = s[j] from rfl] at HL
      generalize lowerL (s.data.toList.take j) = Y at *
      have hb := hide (fun w => between_any (s[j].toNat : Int) 65 90 w)
      rw [← big_eqR] at hb
      have hsz := hk.size
      have hc256 : s[j].toNat < 256 := UInt8.toNat_lt s[j]
      cases hbig : bigB s[j]
      · have hlow : lowB s[j] = s[j] := by unfold lowB; rw [hbig]; rfl
        rw [hbig] at hb
        rw [hlow] at HL
        clear hlow hbig
        go_wp2_with fail
        refine (hb.out _).mono ?_
        rintro e w1 ⟨rfl, rfl⟩
        go_wp2_with (at_builtin; refine wpList_append_own _ rfl _ _ 107 rfl w.heap.size 5 i0 (.int .u8 0) 1 1 Tryz.underlying107 hi hz0 hz1 hz2 rfl (by decide) _ _ _ rfl (ho.alloc _) ⟨w1.heap.size, 0, none⟩ 1 1 [.int .u8 s[j].toNat] rfl rfl ?c1 ?c2 ?c3 ?c4 ?c5 ?_)
        case c1 =>
          intro j u hj
          match j, hj with
          | 0, hj => simp at hj; subst hj; simp [Addr.add]
        case c2 => intro u hu; simp at hu; subst hu; rfl
        case c3 => unfold maxLen; omega
        case c4 => omega
        case c5 => simp; omega
        intro v' w2 ho1 hg1 _
        have ho2 := own_bytes (t := [s[j]]) ho1
        rw [← HL.out] at ho2
        have hk2 : Keeps [] w w2 := (hk.alloc _).grown hg1 fun k e => .inr (ho.lt k e).1
        go_wp2_with fail
        go_roundw
        case rel => exact ⟨j + 1, by omega, by go_num, ho2, hk2⟩
        case measure => simp [intOf]; omega
      · have hv := low_addR s[j] hbig
        rw [hbig] at hb
        have h90 : 65 ≤ s[j].toNat ∧ s[j].toNat ≤ 90 := by simpa [bigB] using hbig
        clear hbig
        generalize lowB s[j] = d at *
        go_wp2_with fail
        refine (hb.out _).mono ?_
        rintro e w1 ⟨rfl, rfl⟩
        go_wp2_with (at_builtin; refine wpList_append_own _ rfl _ _ 107 rfl w.heap.size 5 i0 (.int .u8 0) 1 1 Tryz.underlying107 hi hz0 hz1 hz2 rfl (by decide) _ _ _ rfl (ho.alloc _) ⟨w1.heap.size, 0, none⟩ 1 1 [.int .u8 ((s[j].toNat : Int) + 32)] rfl rfl ?c1 ?c2 ?c3 ?c4 ?c5 ?_)
        case c1 =>
          intro j u hj
          match j, hj with
          | 0, hj => simp at hj; subst hj; simp [Addr.add]
        case c2 => intro u hu; simp at hu; subst hu; rfl
        case c3 => unfold maxLen; omega
        case c4 => omega
        case c5 => simp; omega
        intro v' w2 ho1 hg1 _
        rw [← hv] at ho1
        have ho2 := own_bytes (t := [d]) ho1
        rw [← HL.out] at ho2
        have hk2 : Keeps [] w w2 := (hk.alloc _).grown hg1 fun k e => .inr (ho.lt k e).1
        go_wp2_with fail
        go_roundw
        case rel => exact ⟨j + 1, by omega, by go_num, ho2, hk2⟩
        case measure => simp [intOf]; omega
    · have he : s.data.toList.take j = s.data.toList := List.take_of_length_le (by rw [hln]; omega)
      rw [he] at ho
      have hcv := own_string ho 0
      rw [show wr.drewN 0 = wr from rfl] at hcv
      obtain ⟨oo, cc, hrow⟩ := row_form' ho
      subst hrow
      clear he
      obtain ⟨Y, hY⟩ : ∃ Y, lowerL s.data.toList = Y := ⟨_, rfl⟩
      rw [hY] at ho hcv ⊢
      have HY := hide hY
      clear hY hll
      go_wp2_with fail
      go_ret
      exact ⟨by first | (rw [HY.out]; simp; done) | simp, hk⟩
def okAtR (i : Nat) (c : UInt8) : Bool := if i = 0 then smallB c else nameB c
theorem small_nameR : ∀ c : UInt8, smallB c = true → nameB c = true := all_bytesR (by decide +kernel)
theorem small_eqR : ∀ c : UInt8, smallB c = (decide ((97 : Int) ≤ (c.toNat : Int)) && decide ((c.toNat : Int) ≤ 122)) := all_bytesR (by decide +kernel)
theorem dig_eqR : ∀ c : UInt8, digB c = (decide ((48 : Int) ≤ (c.toNat : Int)) && decide ((c.toNat : Int) ≤ 57)) := all_bytesR (by decide +kernel)
theorem dash_eqR : ∀ c : UInt8, (c == 45) = !((c.toNat : Int) != 45) := all_bytesR (by decide +kernel)
theorem name_yesR (l : List UInt8) (h1 : 1 ≤ l.length) (h2 : l.length ≤ 20) (h : ∀ i (hi : i < l.length), okAtR i l[i] = true) : isNameL l = true := by
  unfold isNameL
  have h0 := h 0 (by omega)
  have e0 : l.getD 0 0 = l[0] := by rw [List.getD_eq_getElem?_getD, List.getElem?_eq_getElem (by omega)]; rfl
  rw [e0]
  have hs : smallB l[0] = true := by simpa [okAtR] using h0
  rw [hs]
  simp only [Bool.and_eq_true, decide_eq_true_eq, List.all_eq_true]
  refine ⟨⟨⟨h1, h2⟩, trivial⟩, fun c hc => ?_⟩
  obtain ⟨i, hi, rfl⟩ := List.getElem_of_mem hc
  have := h i hi
  unfold okAtR at this
  split at this
  · exact small_nameR _ this
  · exact this
theorem name_noR (l : List UInt8) (i : Nat) (hi : i < l.length) (h : okAtR i l[i] = false) : isNameL l = false := by
  rw [Bool.eq_false_iff]
  intro hn
  unfold isNameL at hn
  simp only [Bool.and_eq_true, decide_eq_true_eq, List.all_eq_true] at hn
  obtain ⟨⟨⟨h1, _⟩, h3⟩, h4⟩ := hn
  unfold okAtR at h
  split at h
  · rename_i h0
    subst h0
    have e0 : l.getD 0 0 = l[0] := by rw [List.getD_eq_getElem?_getD, List.getElem?_eq_getElem hi]; rfl
    rw [e0, h] at h3
    simp at h3
  · rw [h4 _ (List.getElem_mem hi)] at h
    simp at h
set_option maxHeartbeats 4000000 in
theorem isNameR_any (s : ByteArray) (w : World) (hs : s.size ≤ maxLen) :
    Calls Tryz.prog 113 #[.string s] w fun e w' => e = .returned (.bool (isNameL s.data.toList)) ∧ w' = w := by
  unfold maxLen at hs
  have hln := len_size s
  have hb := hide (fun w => between_any (s.size : Int) 1 20 w)
  by_cases hr : 1 ≤ s.size ∧ s.size ≤ 20
  · obtain ⟨R, hR⟩ : ∃ R, isNameL s.data.toList = R := ⟨_, rfl⟩
    rw [hR]
    have HR := hide hR
    clear hR
    have e1 : (decide ((1 : Int) ≤ (s.size : Int)) && decide ((s.size : Int) ≤ 20)) = true := by simp; omega
    rw [e1] at hb
    clear e1
    go_enter Tryz.func113, Tryz.ntmps113
    go_wp2_with fail
    refine (hb.out _).mono ?_
    rintro e w1 ⟨rfl, rfl⟩
    go_wp2_with fail
    go_loopw [3] (fun i wr => ∃ j : Nat, j ≤ s.size ∧ i = .int .i64 j ∧ wr = w1 ∧ Hid (∀ i (hi : i < s.data.toList.length), i < j → okAtR i s.data.toList[i] = true)) (fun i _ => s.size - (intOf i).toNat)
    case atStart => exact ⟨0, Nat.zero_le _, rfl, rfl, fun i hi h => by omega⟩
    case round =>
      obtain ⟨j, hj, rfl, rfl, hH⟩ := hrel
      by_cases hlt : j < s.size
      · have hlj : j < s.data.toList.length := by rw [hln]; exact hlt
        have hc256 : s[j].toNat < 256 := UInt8.toNat_lt s[j]
        have b1 := hide (fun w => between_any (s[j].toNat : Int) 97 122 w)
        have b2 := hide (fun w => between_any (s[j].toNat : Int) 48 57 w)
        rw [← small_eqR] at b1
        rw [← dig_eqR] at b2
        have hda := dash_eqR s[j]
        have hok : Hid (okAtR j s.data.toList[j] = if j = 0 then smallB s[j] else (smallB s[j] || digB s[j] || s[j] == 45)) := by
          show okAtR j s[j] = _
          unfold okAtR nameB; rfl
        have next : Hid (okAtR j s.data.toList[j] = true → ∀ i (hi : i < s.data.toList.length), i < j + 1 → okAtR i s.data.toList[i] = true) := fun h i hi hij => by
          rcases Nat.lt_or_ge i j with h' | h'
          · exact hH.out i hi h'
          · have : i = j := by omega
            subst this
            exact h
        have bad : Hid (okAtR j s.data.toList[j] = false → R = false) := fun h => HR.out.symm.trans (name_noR _ j hlj h)
        clear hH HR
        cases h1 : smallB s[j]
        · by_cases h0 : j = 0
          · have hRf := bad.out (by rw [hok.out, if_pos h0]; exact h1)
            subst hRf
            rw [h1] at b1
            subst h0
            clear h1 hok next bad b2 hda
            go_wp2_with fail
            refine (b1.out _).mono ?_
            rintro e w2 ⟨rfl, rfl⟩
            go_wp2_with fail
            go_ret
            exact ⟨by simp, rfl⟩
          · have h0b : ((j : Int) == 0) = false := by simpa using h0
            cases h2 : digB s[j]
            · cases h3 : ((s[j].toNat : Int) != 45)
              · have hn := next.out (by rw [hok.out, if_neg h0, hda, h1, h2, h3]; rfl)
                have HN := hide hn
                rw [h1] at b1
                rw [h2] at b2
                clear h1 h2 hok next bad hda hn
                go_wp2_with fail
                refine (b1.out _).mono ?_
                rintro e w2 ⟨rfl, rfl⟩
                go_wp2_with fail
                refine (b2.out _).mono ?_
                rintro e w3 ⟨rfl, rfl⟩
                go_wp2_with fail
                go_roundw
                case rel => exact ⟨j + 1, by omega, by go_num, by first | rfl | trivial, HN.out⟩
                case measure => simp [intOf]; omega
              · have hRf := bad.out (by rw [hok.out, if_neg h0, hda, h1, h2, h3]; rfl)
                subst hRf
                rw [h1] at b1
                rw [h2] at b2
                clear h1 h2 hok next bad hda
                go_wp2_with fail
                refine (b1.out _).mono ?_
                rintro e w2 ⟨rfl, rfl⟩
                go_wp2_with fail
                refine (b2.out _).mono ?_
                rintro e w3 ⟨rfl, rfl⟩
                go_wp2_with fail
                go_ret
                exact ⟨by simp, rfl⟩
            · have hn := next.out (by rw [hok.out, if_neg h0, h1, h2]; rfl)
              have HN := hide hn
              rw [h1] at b1
              rw [h2] at b2
              clear h1 h2 hok next bad hda hn
              go_wp2_with fail
              refine (b1.out _).mono ?_
              rintro e w2 ⟨rfl, rfl⟩
              go_wp2_with fail
              refine (b2.out _).mono ?_
              rintro e w3 ⟨rfl, rfl⟩
              go_wp2_with fail
              go_roundw
              case rel => exact ⟨j + 1, by omega, by go_num, by first | rfl | trivial, HN.out⟩
              case measure => simp [intOf]; omega
        · have hn := next.out (by rw [hok.out, h1]; split <;> rfl)
          have HN := hide hn
          rw [h1] at b1
          clear h1 hok next bad hda hn b2
          go_wp2_with fail
          refine (b1.out _).mono ?_
          rintro e w2 ⟨rfl, rfl⟩
          go_wp2_with fail
          go_roundw
          case rel => exact ⟨j + 1, by omega, by go_num, by first | rfl | trivial, HN.out⟩
          case measure => simp [intOf]; omega
      · have hRt : R = true := by
          rw [← HR.out]
          exact name_yesR _ (by omega) (by omega) fun i hi => hH.out i hi (by omega)
        subst hRt
        clear hH HR
        go_wp2_with fail
        go_ret
        exact ⟨by simp, rfl⟩
  · have hf : isNameL s.data.toList = false := by
      unfold isNameL
      rw [hln]
      rcases (show s.size < 1 ∨ 20 < s.size from by omega) with h | h
      · simp; omega
      · have : decide (s.size ≤ 20) = false := by simp; omega
        rw [this]; simp
    have e1 : (decide ((1 : Int) ≤ (s.size : Int)) && decide ((s.size : Int) ≤ 20)) = false := by
      rw [Bool.eq_false_iff]; simp; omega
    rw [hf]
    rw [e1] at hb
    clear hf e1
    go_enter Tryz.func113, Tryz.ntmps113
    go_wp2_with fail
    refine (hb.out _).mono ?_
    rintro e w1 ⟨rfl, rfl⟩
    go_wp2_with fail
    go_ret
    exact ⟨by simp, rfl⟩
end Go.Proofs.YtlcljanibjdejaaGreat
namespace Go.Proofs.YtlcljanibjdejaaGreat
open Go.RowKit Go.Maps
theorem drop_get (s : ByteArray) (k : Nat) (hk : k < s.size) : s.data.toList.drop k = s[k] :: s.data.toList.drop (k + 1) := by
  have hl : k < s.data.toList.length := by simpa using hk
  rw [List.drop_eq_getElem_cons hl]
  rfl
theorem byteAt_get (s : ByteArray) (k : Nat) (hk : k < s.size) : byteAt s k = s[k] := by
  have h1 := drop_get s k hk
  rw [drop_byteAt s k hk] at h1
  exact (List.cons.inj h1).1
def runTo (p : UInt8 → Bool) (s : ByteArray) (k : Nat) : Nat := k + ((s.data.toList.drop k).takeWhile p).length
theorem runTo_step {p : UInt8 → Bool} {s : ByteArray} {k : Nat} (hk : k < s.size) (h : p s[k] = true) : runTo p s k = runTo p s (k + 1) := by
  unfold runTo
  rw [drop_get s k hk, List.takeWhile_cons, if_pos h, List.length_cons]
  omega
theorem runTo_stop {p : UInt8 → Bool} {s : ByteArray} {k : Nat} (hk : k < s.size) (h : p s[k] = false) : runTo p s k = k := by
  unfold runTo
  rw [drop_get s k hk, List.takeWhile_cons, if_neg (by simp [h])]
  rfl
theorem runTo_end {p : UInt8 → Bool} {s : ByteArray} {k : Nat} (hk : s.size ≤ k) : runTo p s k = k := by
  unfold runTo
  rw [List.drop_eq_nil_of_le (by rw [len_size]; exact hk)]
  rfl
theorem runTo_ge (p : UInt8 → Bool) (s : ByteArray) (k : Nat) : k ≤ runTo p s k := Nat.le_add_right ..
theorem runTo_le (p : UInt8 → Bool) {s : ByteArray} {k : Nat} (hk : k ≤ s.size) : runTo p s k ≤ s.size := by
  have h := (List.takeWhile_sublist (l := s.data.toList.drop k) (p := p)).length_le
  rw [List.length_drop, len_size] at h
  unfold runTo
  omega
theorem runTo_list (p : UInt8 → Bool) (s : ByteArray) (k : Nat) : (s.data.toList.drop k).takeWhile p = (s.extract k (runTo p s k)).data.toList := by
  rw [Lib.extract_data]
  unfold runTo
  rw [Nat.add_sub_cancel_left]
  exact List.prefix_iff_eq_take.1 (List.takeWhile_prefix _)
theorem attr_ways (s : ByteArray) (k1 : Nat) (h1 : k1 < s.size) (k2 k3 : Nat) (hk2 : runTo attrN s (k1 + 1) = k2) (hk3 : runTo whiteB s k2 = k3) :
    attrL (s.data.toList.drop k1) = match s.data.toList.drop k3 with
    | [] => none
    | d :: q => if d = 61 then
        match valL (q.drop (q.takeWhile whiteB).length) with
        | none => none
        | some (v, m) => some ((lowerL (s.extract k1 k2).data.toList, (takeL v).1), k3 - k1 + 1 + (q.takeWhile whiteB).length + m)
      else some ((lowerL (s.extract k1 k2).data.toList, []), k3 - k1) := by
  have e1 : (s.extract k1 k2).data.toList = s[k1] :: (s.data.toList.drop (k1 + 1)).takeWhile attrN := by
    rw [runTo_list attrN s (k1 + 1), hk2, Lib.extract_data, Lib.extract_data, drop_get s k1 h1]
    have := runTo_ge attrN s (k1 + 1)
    rw [hk2] at this
    rw [show k2 - k1 = (k2 - (k1 + 1)) + 1 from by omega, List.take_succ_cons]
  have e2 : k3 - k1 = 1 + ((s.data.toList.drop (k1 + 1)).takeWhile attrN).length + ((s.data.toList.drop k2).takeWhile whiteB).length := by
    rw [← hk3, ← hk2]
    unfold runTo
    omega
  have e3 : s.data.toList.drop k3 = (s[k1] :: s.data.toList.drop (k1 + 1)).drop (1 + ((s.data.toList.drop (k1 + 1)).takeWhile attrN).length + ((s.data.toList.drop k2).takeWhile whiteB).length) := by
    rw [← drop_get s k1 h1, drop_drop', ← e2]
    have := runTo_ge whiteB s k2
    have := runTo_ge attrN s (k1 + 1)
    rw [show k1 + (k3 - k1) = k3 from by omega]
  rw [drop_get s k1 h1, e1, e2, e3]
  refine attrL_cons _ _ _ _ rfl ?_
  rw [← drop_get s k1 h1, drop_drop', ← hk2]
  unfold runTo
  rw [show k1 + (1 + ((s.data.toList.drop (k1 + 1)).takeWhile attrN).length) = k1 + 1 + ((s.data.toList.drop (k1 + 1)).takeWhile attrN).length from by omega]
theorem attr_way0 {s : ByteArray} {k1 k2 k3 : Nat} (h1 : k1 < s.size) (hk2 : runTo attrN s (k1 + 1) = k2) (hk3 : runTo whiteB s k2 = k3) (h3 : s.size ≤ k3) : attrL (s.data.toList.drop k1) = none := by
  rw [attr_ways s k1 h1 k2 k3 hk2 hk3, List.drop_eq_nil_of_le (by rw [len_size]; exact h3)]
theorem attr_way1 {s : ByteArray} {k1 k2 k3 : Nat} (h1 : k1 < s.size) (hk2 : runTo attrN s (k1 + 1) = k2) (hk3 : runTo whiteB s k2 = k3) (h3 : k3 < s.size) (h4 : s[k3] ≠ 61) :
    attrL (s.data.toList.drop k1) = some ((lowerL (s.extract k1 k2).data.toList, []), k3 - k1) := by
  rw [attr_ways s k1 h1 k2 k3 hk2 hk3, drop_get s k3 h3]
  simp only [if_neg h4]
theorem attr_way2 {s : ByteArray} {k1 k2 k3 k4 : Nat} (h1 : k1 < s.size) (hk2 : runTo attrN s (k1 + 1) = k2) (hk3 : runTo whiteB s k2 = k3) (h3 : k3 < s.size) (h4 : s[k3] = 61) (hk4 : runTo whiteB s (k3 + 1) = k4) :
    attrL (s.data.toList.drop k1) = match valL (s.data.toList.drop k4) with
      | none => none
      | some (v, m) => some ((lowerL (s.extract k1 k2).data.toList, (takeL v).1), k4 - k1 + m) := by
  have e : k3 - k1 + 1 + ((s.data.toList.drop (k3 + 1)).takeWhile whiteB).length = k4 - k1 := by
    rw [← hk4]
    have := runTo_ge attrN s (k1 + 1)
    have := runTo_ge whiteB s k2
    unfold runTo at *
    omega
  rw [attr_ways s k1 h1 k2 k3 hk2 hk3, drop_get s k3 h3]
  simp only [if_pos h4]
  rw [drop_drop', e, ← hk4]
  rfl
theorem val_none {s : ByteArray} {k : Nat} (h : s.size ≤ k) : valL (s.data.toList.drop k) = none := by
  rw [List.drop_eq_nil_of_le (by rw [len_size]; exact h)]
  rfl
theorem val_plain {s : ByteArray} {k : Nat} (h : k < s.size) (h1 : s[k] ≠ 34) (h2 : s[k] ≠ 39) : valL (s.data.toList.drop k) = some ((s.extract k (runTo valN s k)).data.toList, runTo valN s k - k) := by
  rw [← runTo_list]
  have e : runTo valN s k - k = ((s.data.toList.drop k).takeWhile valN).length := by unfold runTo; omega
  rw [e, drop_get s k h]
  unfold valL
  simp only [h1, h2, or_self, if_false]
theorem index_byte (c : UInt8) (l : List UInt8) : Lib.index l [c] = if (l.takeWhile (· != c)).length < l.length then ((l.takeWhile (· != c)).length : Int) else -1 := by
  induction l with
  | nil => simp [Lib.index]
  | cons d l ih =>
    unfold Lib.index
    by_cases h : d = c
    · subst h
      simp
    · have h' : ¬ c = d := fun e => h e.symm
      have hb : (d != c) = true := by simpa using h
      rw [List.takeWhile_cons, if_pos hb, ih]
      simp only [List.length_cons]
      rw [if_neg (by simp [List.isPrefixOf, h'])]
      by_cases hl : (l.takeWhile (· != c)).length < l.length
      · rw [if_pos hl, if_neg (by simp), if_pos (by omega)]
        simp
      · rw [if_neg hl, if_pos (by rfl), if_neg (by omega)]
theorem val_quote {s : ByteArray} {k : Nat} (h : k < s.size) (hq : s[k] = 34 ∨ s[k] = 39) :
    valL (s.data.toList.drop k) = if nextIR s.data.toList [s[k]] (k + 1) < 0 then none
      else some ((s.extract (k + 1) (nextIR s.data.toList [s[k]] (k + 1)).toNat).data.toList, (nextIR s.data.toList [s[k]] (k + 1)).toNat + 1 - k) := by
  have hlen : (s.data.toList.drop (k + 1)).length = s.size - (k + 1) := by rw [List.length_drop, len_size]
  have hr := runTo_list (· != s[k]) s (k + 1)
  have hlt : ((s.data.toList.drop (k + 1)).takeWhile (· != s[k])).length = runTo (· != s[k]) s (k + 1) - (k + 1) := by unfold runTo; omega
  have hge := runTo_ge (· != s[k]) s (k + 1)
  rw [drop_get s k h]
  unfold valL nextIR
  simp only [if_pos hq]
  rw [index_byte]
  by_cases hl : ((s.data.toList.drop (k + 1)).takeWhile (· != s[k])).length < (s.data.toList.drop (k + 1)).length
  · rw [if_pos hl, if_pos hl, if_neg (by omega), if_neg (by omega)]
    have e : ((↑(k + 1) : Int) + (((s.data.toList.drop (k + 1)).takeWhile (· != s[k])).length : Int)).toNat = runTo (· != s[k]) s (k + 1) := by rw [hlt]; omega
    rw [e, ← hr, hlt]
    congr 2
    omega
  · rw [if_neg hl, if_neg hl]
    simp
theorem attrsAt_end (l : List UInt8) (f k : Nat) (acc : List Pair) (h : l.length ≤ k) : attrsAt l f k acc = none := by
  cases f with
  | zero => rfl
  | succ f =>
    unfold attrsAt
    rw [List.drop_eq_nil_of_le (by omega)]
def nextAcc (acc : List Pair) (p : Pair) : List Pair := if p.1 ∈ acc.map (·.1) ∨ isNameL p.1 = false then acc else acc ++ [p]
theorem next_none {s : ByteArray} {f k1 k' : Nat} {acc acc' : List Pair} {R : Option (List Pair × Nat)}
    (hF : R = match attrL (s.data.toList.drop k1) with | none => none | some (p, m) => attrsAt s.data.toList f (k1 + m) (nextAcc acc p))
    (ha : attrL (s.data.toList.drop k1) = none) (hk : s.size ≤ k') : attrsAt s.data.toList f k' acc' = R := by
  rw [hF, ha, attrsAt_end _ _ _ _ (by rw [len_size]; exact hk)]
theorem next_some {s : ByteArray} {f k1 k' : Nat} {acc : List Pair} {R : Option (List Pair × Nat)} {p : Pair} {m : Nat}
    (hF : R = match attrL (s.data.toList.drop k1) with | none => none | some (p, m) => attrsAt s.data.toList f (k1 + m) (nextAcc acc p))
    (ha : attrL (s.data.toList.drop k1) = some (p, m)) (hk : k1 + m = k') : attrsAt s.data.toList f k' (nextAcc acc p) = R := by
  subst hk
  rw [hF, ha]
theorem round_end {s : ByteArray} {f k k1 : Nat} {acc : List Pair} {R : Option (List Pair × Nat)} (hF : attrsAt s.data.toList (f + 1) k acc = R) (hk : runTo skipB s k = k1) (h : s.size ≤ k1) : R = none := by
  rw [one_attrsAt hF k1 hk, List.drop_eq_nil_of_le (by rw [len_size]; exact h)]
theorem round_gt {s : ByteArray} {f k k1 : Nat} {acc : List Pair} {R : Option (List Pair × Nat)} (hF : attrsAt s.data.toList (f + 1) k acc = R) (hk : runTo skipB s k = k1) (h : k1 < s.size) (hg : s[k1] = 62) : R = some (acc, k1) := by
  rw [one_attrsAt hF k1 hk, drop_get s k1 h]
  simp only [if_pos hg]
theorem round_attr {s : ByteArray} {f k k1 : Nat} {acc : List Pair} {R : Option (List Pair × Nat)} (hF : attrsAt s.data.toList (f + 1) k acc = R) (hk : runTo skipB s k = k1) (h : k1 < s.size) (hg : s[k1] ≠ 62) :
    R = match attrL (s.data.toList.drop k1) with | none => none | some (p, m) => attrsAt s.data.toList f (k1 + m) (nextAcc acc p) := by
  have h1 := one_attrsAt hF k1 hk
  rw [drop_get s k1 h] at h1
  simp only [if_neg hg] at h1
  rw [h1, drop_get s k1 h]
  rfl
theorem way_no {s : ByteArray} {f k1 k2 k3 : Nat} {acc : List Pair} {R : Option (List Pair × Nat)} {n : List UInt8} (h1 : k1 < s.size) (hk2 : runTo attrN s (k1 + 1) = k2) (hk3 : runTo whiteB s k2 = k3)
    (hF : R = match attrL (s.data.toList.drop k1) with | none => none | some (p, m) => attrsAt s.data.toList f (k1 + m) (nextAcc acc p))
    (hn : lowerL (s.extract k1 k2).data.toList = n) (hB : decide (k3 < s.size ∧ byteAt s k3 = 61) = false) : attrsAt s.data.toList f k3 (nextAcc acc (n, [])) = R := by
  have h12 := runTo_ge attrN s (k1 + 1)
  have h23 := runTo_ge whiteB s k2
  by_cases h3 : s.size ≤ k3
  · exact next_none hF (attr_way0 h1 hk2 hk3 h3) h3
  · have h3' : k3 < s.size := by omega
    have h61 : s[k3] ≠ 61 := fun h => by simp [h3', byteAt_get s k3 h3', h] at hB
    have := next_some hF (attr_way1 h1 hk2 hk3 h3' h61) (k' := k3) (by omega)
    rwa [hn] at this
theorem way_none {s : ByteArray} {f k1 k2 k3 k4 k' : Nat} {acc acc' : List Pair} {R : Option (List Pair × Nat)} (h1 : k1 < s.size) (hk2 : runTo attrN s (k1 + 1) = k2) (hk3 : runTo whiteB s k2 = k3)
    (hF : R = match attrL (s.data.toList.drop k1) with | none => none | some (p, m) => attrsAt s.data.toList f (k1 + m) (nextAcc acc p))
    (h3 : k3 < s.size) (h4 : s[k3] = 61) (hk4 : runTo whiteB s (k3 + 1) = k4) (hv : valL (s.data.toList.drop k4) = none) (hk : s.size ≤ k') : attrsAt s.data.toList f k' acc' = R :=
  next_none hF ((attr_way2 h1 hk2 hk3 h3 h4 hk4).trans (by rw [hv])) hk
theorem way_noneR {s : ByteArray} {f k1 k2 k3 k4 : Nat} {acc : List Pair} {R : Option (List Pair × Nat)} (h1 : k1 < s.size) (hk2 : runTo attrN s (k1 + 1) = k2) (hk3 : runTo whiteB s k2 = k3)
    (hF : R = match attrL (s.data.toList.drop k1) with | none => none | some (p, m) => attrsAt s.data.toList f (k1 + m) (nextAcc acc p))
    (h3 : k3 < s.size) (h4 : s[k3] = 61) (hk4 : runTo whiteB s (k3 + 1) = k4) (hv : valL (s.data.toList.drop k4) = none) : R = none := by
  rw [hF, (attr_way2 h1 hk2 hk3 h3 h4 hk4).trans (by rw [hv])]
theorem way_val {s : ByteArray} {f k1 k2 k3 k4 k' m : Nat} {acc : List Pair} {R : Option (List Pair × Nat)} {n v V : List UInt8} (h1 : k1 < s.size) (hk2 : runTo attrN s (k1 + 1) = k2) (hk3 : runTo whiteB s k2 = k3)
    (hF : R = match attrL (s.data.toList.drop k1) with | none => none | some (p, m) => attrsAt s.data.toList f (k1 + m) (nextAcc acc p))
    (hn : lowerL (s.extract k1 k2).data.toList = n) (h3 : k3 < s.size) (h4 : s[k3] = 61) (hk4 : runTo whiteB s (k3 + 1) = k4)
    (hv : valL (s.data.toList.drop k4) = some (v, m)) (hV : (takeL v).1 = V) (hk : k4 + m = k') : attrsAt s.data.toList f k' (nextAcc acc (n, V)) = R := by
  have h12 := runTo_ge attrN s (k1 + 1)
  have h23 := runTo_ge whiteB s k2
  have h34 := runTo_ge whiteB s (k3 + 1)
  subst hV
  subst hn
  exact next_some hF ((attr_way2 h1 hk2 hk3 h3 h4 hk4).trans (by rw [hv])) (by omega)
theorem nextIR_nat {l p : List UInt8} {k : Nat} (h : 0 ≤ nextIR l p k) (hp : 0 < p.length) : ∃ m : Nat, nextIR l p k = m ∧ k ≤ m ∧ m + p.length ≤ l.length := by
  unfold nextIR at *
  by_cases hn : Lib.index (l.drop k) p < 0
  · rw [if_pos hn] at h
    omega
  · rw [if_neg hn] at h ⊢
    have h1 := index_len' (l.drop k) p (by omega)
    rw [List.length_drop] at h1
    exact ⟨k + (Lib.index (l.drop k) p).toNat, by omega, by omega, by omega⟩
end Go.Proofs.YtlcljanibjdejaaGreat

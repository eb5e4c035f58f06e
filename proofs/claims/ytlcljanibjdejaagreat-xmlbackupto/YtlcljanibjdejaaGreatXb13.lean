/- Strict trees: a small document, and xmlBegun. Strict trees: xmlBegun. Strict trees: how much it is that is read. -/
import Derived.Test.YtlcljanibjdejaaGreatXb12
import Derived.Deep.RegionHeld3
namespace Go.Proofs.YtlcljanibjdejaaGreat
open Go.RowKit Go.Maps
theorem ns_newP (w : World) (P : Nat → Prop) (l : List Pn) (cs : Array Value) (hcs : cs.toList = pnsCells l) (hn : l.length ≤ maxLen) (ha : ∀ p ∈ l, p.av = .slice none 0 0 ∧ p.nd.attrs = []) (hk : ∀ p ∈ l, Ns w P p.kv p.nd.kids) (hP : P w.heap.size) :
    Ns (w.alloc (.cells cs 45)) P (.slice (some ⟨w.heap.size, 0, none⟩) l.length l.length) (l.map Pn.nd) := by
  refine .mk _ l _ rfl ⟨pnsCells_len l, .inr ⟨w.heap.size, 0, l.length, rfl, Nat.le_refl _, hn, by simp, hP, fun j u hj => ?_⟩⟩ (fun p hp => ?_) (fun p hp => (hk p hp).keeps0 ((Keeps.refl [] w).alloc _))
  · rw [← hcs] at hj
    have := lit_cells w cs 45 j u hj
    rw [add_zero] at this
    rw [Nat.zero_add]
    exact this
  · rw [(ha p hp).1, (ha p hp).2]
    exact ⟨rfl, .inl ⟨rfl, none, 0, rfl, by simp [maxLen]⟩⟩
def docN : Nd := .mk [114] [([97], [60, 38])] [] [.mk [] [] [120] [], .mk [110, 58, 101] [] [] []]
set_option maxRecDepth 8000 in
set_option maxHeartbeats 4000000 in
theorem doc95_any (w : World) : Calls Tryz.prog 95 #[] w fun e w' => ∃ v, e = .returned v ∧ NdVal w' (fun _ => True) docN v ∧ Keeps [] w w' := by
  obtain ⟨W1, hW1⟩ : ∃ W1, w.alloc (.cells #[.string ⟨#[]⟩, .slice none 0 0, .string ⟨#[]⟩, .slice none 0 0] 45) = W1 := ⟨_, rfl⟩
  obtain ⟨W2, hW2⟩ : ∃ W2, W1.alloc (.cells #[.string ⟨#[97]⟩, .string ⟨#[60, 38]⟩] 52) = W2 := ⟨_, rfl⟩
  obtain ⟨W3, hW3⟩ : ∃ W3, W2.alloc (.cells #[.string ⟨#[]⟩, .slice none 0 0, .string ⟨#[120]⟩, .slice none 0 0, .string ⟨#[110, 58, 101]⟩, .slice none 0 0, .string ⟨#[]⟩, .slice none 0 0] 45) = W3 := ⟨_, rfl⟩
  have b1 := blk_new rfl hW1
  have b2 := blk_new b1.2 hW2
  have b3 := blk_new b2.2 hW3
  have hk1 : Keeps [] w W1 := by rw [← hW1]; exact (Keeps.refl [] w).alloc _
  have hk2 : Keeps [] w W2 := by rw [← hW2]; exact hk1.alloc _
  have hk3 : Keeps [] w W3 := by rw [← hW3]; exact hk2.alloc _
  have n3 := ns_newP W2 (fun g => w.heap.size < g) [⟨.mk [] [] [120] [], .slice none 0 0, .slice none 0 0⟩, ⟨.mk [110, 58, 101] [] [] [], .slice none 0 0, .slice none 0 0⟩] #[.string ⟨#[]⟩, .slice none 0 0, .string ⟨#[120]⟩, .slice none 0 0, .string ⟨#[110, 58, 101]⟩, .slice none 0 0, .string ⟨#[]⟩, .slice none 0 0] rfl (by simp [maxLen]) (by intro p hp; simp at hp; rcases hp with rfl | rfl <;> exact ⟨rfl, rfl⟩) (by intro p hp; simp at hp; rcases hp with rfl | rfl <;> exact Ns.nil _ _ none 0 (by simp [maxLen])) (by omega)
  rw [hW3, b2.2] at n3
  have a1 : W3.heap[w.heap.size]? = some (.cells #[.string ⟨#[]⟩, .slice none 0 0, .string ⟨#[]⟩, .slice none 0 0] 45 (0, 0)) := blk_old (blk_old b1.1 (by omega) hW2) (by omega) hW3
  have a2 : W3.heap[w.heap.size + 1]? = some (.cells #[.string ⟨#[97]⟩, .string ⟨#[60, 38]⟩] 52 (0, 0)) := blk_old b2.1 (by omega) hW3
  have hla : LiesP W3 (fun g => w.heap.size < g) (.slice (some ⟨w.heap.size + 1, 0, none⟩) 1 1) 1 2 (pairCells [([97], [60, 38])]) := by
    refine ⟨rfl, .inr ⟨w.heap.size + 1, 0, 1, rfl, Nat.le_refl _, by simp [maxLen], by omega, by omega, fun j u hj => ?_⟩⟩
    rw [Nat.zero_add]
    have := cell_blk a2 j
    rw [this]
    simpa [pairCells] using hj
  have z0 := cell_blk a1 0
  have z1 := cell_blk a1 1
  have z2 := cell_blk a1 2
  have z3 := cell_blk a1 3
  have g0 := free_blk a1 0
  have g1 := free_blk a1 1
  have g2 := free_blk a1 2
  have g3 := free_blk a1 3
  simp at z0 z1 z2 z3
  have s1 := b1.2
  have s2 := b2.2
  have A1 := hide a1
  have HLA := hide hla
  have HNK := hide n3
  have HK3 := hide hk3
  clear a1 a2 hla n3 b1 b2 b3 hk1 hk2 hk3
  have hres : ∀ (tmps : Array Value) (w3 : World) (cs : Array Value), cs.size = 4 → tmps.getD 0 undef = .pointer (some ⟨w.heap.size, 0, none⟩) → w3.heap[w.heap.size]? = some (.cells cs 45 (0, 0)) → (results Tryz.f95 tmps).run Tryz.prog w3 = .ok (.agg cs) w3 := fun tmps w3 cs hc hp hg => results_cell_row (P := Tryz.prog) rfl tmps w3 _ 45 cs (0, 0) _ hp hg Tryz.underlying45 rfl (by rw [hc]; kernel_rfl)
  go_enter Tryz.func95, Tryz.ntmps95
  go_wp2_with fail
  have hks := set4_keeps W3 w.heap.size (.string ⟨#[114]⟩) (.slice (some ⟨w.heap.size + 1, 0, none⟩) 1 1) (.string ⟨#[]⟩) (.slice (some ⟨w.heap.size + 1 + 1, 0, none⟩) 2 2)
  refine ⟨rfl, _, hres _ _ #[.string ⟨#[114]⟩, .slice (some ⟨w.heap.size + 1, 0, none⟩) 1 1, .string ⟨#[]⟩, .slice (some ⟨w.heap.size + 1 + 1, 0, none⟩) 2 2] rfl rfl (set4_blk _ _ _ _ A1.out), _, rfl, ⟨some ⟨w.heap.size + 1, 0, none⟩, 1, some ⟨w.heap.size + 1 + 1, 0, none⟩, 2, rfl, ?_, ?_⟩, keeps_on HK3.out hks (fun g hg hlt => by simp at hg; omega)⟩
  · exact (HLA.out.keeps hks (fun g hg hm => by simp at hm; omega)).mono (fun _ _ _ => trivial)
  · exact (HNK.out.keeps hks (fun g hg hm => by simp at hm; omega)).mono (fun _ _ _ => trivial)
end Go.Proofs.YtlcljanibjdejaaGreat
namespace Go.Proofs.YtlcljanibjdejaaGreat
open Go.RowKit Go.Maps
def xmT : List UInt8 := [60,63,120,109,108,32,118,101,114,115,105,111,110,61,39,49,46,48,39,63,62,60,33,45,45,32,99,32,45,45,62,60,114,32,97,32,61,32,39,38,108,116,59,38,97,109,112,59,39,62,120,60,110,58,101,62,60,47,110,58,101,32,62,60,47,114,62,32]
def xmO : List UInt8 := [60, 114, 32, 97, 61, 34, 38, 108, 116, 59, 38, 97, 109, 112, 59, 34, 62, 120, 60, 110, 58, 101, 47, 62, 60, 47, 114, 62]
theorem xm_read : readX xmT = .ok docN := by kernel_rfl
theorem xm_state : readX [60, 97, 62, 60, 47, 98, 62] = .error 4 := by kernel_rfl
theorem xm_check : chkXml docN = 0 := by
  rw [chkXml_ok]
  refine ⟨by simp [docN, sizeNs], by simp [docN, Nd.name], ?_⟩
  simp [docN, RtX, isTitleL, chkAX]
  decide
theorem xm_print : printX docN = xmO := by
  simp only [docN, printX, printXs]
  kernel_rfl
theorem xm_bulk : bulkNs [docN] ≤ 1100000 := by simp [docN, bulkNs, bulkP]
theorem cell_all {w w' : World} (hk : Keeps [] w w') {g : Nat} {cs : Array Value} {ty : TypeId} (h : w.heap[g]? = some (.cells cs ty (0, 0))) (j : Nat) : w'.cell? ⟨g, j, none⟩ = cs[j]? := cell_blk ((hk.block _ (lt_of_block h) List.not_mem_nil).trans h) j
theorem ns_blk {w : World} {P : Nat → Prop} {n : Nd} {av kv : Value} {g : Nat} (hb : w.heap[g]? = some (.cells #[.string ⟨n.name.toArray⟩, av, .string ⟨n.text.toArray⟩, kv] 45 (0, 0))) (ha : LiesP w P av n.attrs.length 2 (pairCells n.attrs)) (hk : Ns w P kv n.kids) (hP : P g) :
    Ns w P (.slice (some ⟨g, 0, none⟩) 1 1) [n] := by
  refine .mk _ [⟨n, av, kv⟩] _ rfl ⟨by simp [pnsCells, pnCells], .inr ⟨g, 0, 1, rfl, Nat.le_refl _, by simp [maxLen], lt_of_block hb, hP, fun j u hj => ?_⟩⟩ (fun p hp => ?_) (fun p hp => ?_)
  · rw [Nat.zero_add, cell_blk hb j]
    simpa [pnsCells, pnCells] using hj
  · simp at hp; subst hp
    exact ha
  · simp at hp; subst hp
    exact hk
theorem old_blk {w8 w7 : World} {o1 : Obj} (h : Keeps [] (w8.alloc o1) w7) (o2 : Obj) : (w7.alloc o2).heap[w8.heap.size]? = some o1 := by
  have h1 := h.size
  simp at h1
  exact (((Keeps.refl [] w7).alloc o2).block _ (by omega) List.not_mem_nil).trans ((h.block _ (by simp) List.not_mem_nil).trans (heap_alloc_new w8 o1))
theorem keeps_eq {w W : World} {n : Nat} (h : w = W.drewN n) : Keeps [] W w := by rw [h]; exact (Keeps.refl [] W).drewN n
theorem same_one {n : Nd} {Wc : World} {g1 g2 : Nat} {a1 k1 a2 k2 : Value} (h1 : Wc.heap[g1]? = some (.cells #[.string ⟨n.name.toArray⟩, a1, .string ⟨n.text.toArray⟩, k1] 45 (0, 0))) (hA1 : LiesP Wc (fun _ => True) a1 n.attrs.length 2 (pairCells n.attrs)) (hN1 : Ns Wc (fun _ => True) k1 n.kids)
    (h2 : Wc.heap[g2]? = some (.cells #[.string ⟨n.name.toArray⟩, a2, .string ⟨n.text.toArray⟩, k2] 45 (0, 0))) (hA2 : LiesP Wc (fun _ => True) a2 n.attrs.length 2 (pairCells n.attrs)) (hN2 : Ns Wc (fun _ => True) k2 n.kids) :
    Calls Tryz.prog 25 #[.slice (some ⟨g1, 0, none⟩) 1 1, .slice (some ⟨g2, 0, none⟩) 1 1] Wc fun e w' => e = .returned (.bool true) ∧ ∃ m, w' = Wc.drewN m :=
  sameNodes_eq _ _ Wc _ [n] (ns_blk h1 hA1 hN1 trivial) _ Wc (Keeps.refl _ _) (ns_blk h2 hA2 hN2 trivial)
/-- Behind xmlBegun's reading: what was read lies where it lay. -/
@[reducible] def SX (W6 : World) (g : Nat) (oa : Option Addr) (ca : Nat) (ok : Option Addr) (ck : Nat) (w' : World) : Prop :=
  Keeps [] W6 w' ∧ w'.cell? ⟨g, 0, none⟩ = some (.string ⟨docN.name.toArray⟩) ∧ w'.cell? ⟨g, 1, none⟩ = some (.slice oa docN.attrs.length ca) ∧ w'.cell? ⟨g, 2, none⟩ = some (.string ⟨docN.text.toArray⟩) ∧ w'.cell? ⟨g, 3, none⟩ = some (.slice ok docN.kids.length ck)
theorem SX.of {W6 w' : World} {g : Nat} {oa ok : Option Addr} {ca ck : Nat} (hb : W6.heap[g]? = some (.cells #[.string ⟨docN.name.toArray⟩, .slice oa docN.attrs.length ca, .string ⟨docN.text.toArray⟩, .slice ok docN.kids.length ck] 45 (0, 0))) (hk : Keeps [] W6 w') : SX W6 g oa ca ok ck w' :=
  ⟨hk, cell_all hk hb 0, cell_all hk hb 1, cell_all hk hb 2, cell_all hk hb 3⟩
set_option maxRecDepth 8000 in
set_option maxHeartbeats 8000000 in
theorem xmlBegun_any (w : World) (hM : HasMax w) : Calls Tryz.prog 28 #[] w fun e w' => e = .returned (.bool true) ∧ Keeps [] w w' := by
  have nn : ∀ g, g ∉ ([] : List Nat) := fun _ => List.not_mem_nil
  have hm0 := hide (fun (w1 : World) (hk : Keeps [] w w1) => hM.keeps hk (nn _))
  have pr := hide (fun (w1 : World) (v : Value) (hV : NdVal w1 (fun _ => True) docN v) => xmlPrint_any w1 _ docN v hV xm_bulk)
  rw [xm_check, if_pos rfl, xm_print] at pr
  have ck := hide (fun (w1 : World) (v : Value) (hV : NdVal w1 (fun _ => True) docN v) => xmlCheck_any w1 _ docN v hV (by have := bulkNs_size [docN]; have := xm_bulk; omega) (bulkNs_fits [docN] xm_bulk).1)
  rw [xm_check] at ck
  have r1 := hide (fun (w1 : World) (hk : Keeps [] w w1) => (xmlRead_any xmT w1 (hm0.out w1 hk) (by unfold xmT maxLen; decide)).mono (R' := fun e w' => (∃ v, e = .returned (.tuple #[v, .int .i64 0]) ∧ DocOut w1 docN v w') ∧ Keeps [] w1 w') (fun e w' h => ⟨h.1.elim (fun ⟨n, v, h1, h2⟩ => by rw [xm_read] at h1; injection h1 with h1; subst h1; exact ⟨v, h2⟩) (fun ⟨k, h1, _⟩ => by rw [xm_read] at h1; injection h1), h.2⟩))
  have r2 := hide (fun (w1 : World) (hk : Keeps [] w w1) => (xmlRead_any [60, 97, 62, 60, 47, 98, 62] w1 (hm0.out w1 hk) (by unfold maxLen; decide)).mono (R' := fun e w' => e = .returned (.tuple #[zeroN, .int .i64 4]) ∧ Keeps [] w1 w') (fun e w' h => ⟨h.1.elim (fun ⟨n, v, h1, _⟩ => by rw [xm_state] at h1; injection h1) (fun ⟨k, h1, h2⟩ => by rw [xm_state] at h1; injection h1 with h1; subst h1; exact h2), h.2⟩))
  unfold zeroN at r2
  unfold xmT at r1
  have hxo : xmO = [60, 114, 32, 97, 61, 34, 38, 108, 116, 59, 38, 97, 109, 112, 59, 34, 62, 120, 60, 110, 58, 101, 47, 62, 60, 47, 114, 62] := rfl
  rw [hxo] at pr
  clear hxo hM
  go_enter Tryz.func28, Tryz.ntmps28
  go_wp2_with fail
  refine (doc95_any _).mono ?_
  rintro e w1 ⟨v1, rfl, hV1, hk1⟩
  have p1 := hide (pr.out w1 v1 hV1)
  obtain ⟨oa1, ca1, ok1, ck1, rfl, _, _⟩ := hV1
  have HK1 := hide hk1
  clear hk1
  go_wp2_with fail
  refine p1.out.mono ?_
  rintro e w2 ⟨rfl, hk2⟩
  have HK2 := hide (HK1.out.trans hk2)
  clear hk2
  go_wp2_with fail
  refine (r1.out w2 HK2.out).mono ?_
  rintro e w3 ⟨⟨v3, rfl, hD3⟩, hk3⟩
  obtain ⟨oa, ca, ok, ck9, rfl, hLA, hNK⟩ := hD3.parts
  obtain ⟨W4, hW4⟩ : ∃ W4, w3.alloc (.cells #[.string ⟨docN.name.toArray⟩, .slice oa docN.attrs.length ca, .string ⟨docN.text.toArray⟩, .slice ok docN.kids.length ck9] 45) = W4 := ⟨_, rfl⟩
  have hk4 : Keeps [] w3 W4 := by rw [← hW4]; exact (Keeps.refl [] w3).alloc _
  have b4 := blk_new rfl hW4
  have HK4 := hide ((HK2.out.trans hk3).trans hk4)
  have HLA := hide (hLA.keeps hk4 (fun _ _ => nn _))
  have HNK := hide (hNK.keeps0 hk4)
  have HB4 := hide b4.1
  have HW4 := hide hW4
  clear hk3 hk4 hW4 b4 hLA hNK hD3
  go_upto_region 3 with fail
  rw [HW4.out]
  go_wp2_with fail
  refine (r2.out W4 HK4.out).mono ?_
  rintro e w5 ⟨rfl, hk5⟩
  obtain ⟨W6, hW6⟩ : ∃ W6, w5.alloc (.cells #[.string ⟨#[]⟩, .slice none 0 0, .string ⟨#[]⟩, .slice none 0 0] 45) = W6 := ⟨_, rfl⟩
  have hk6 : Keeps [] W4 W6 := by rw [← hW6]; exact hk5.alloc _
  have hb6 := (hk6.block _ (lt_of_block HB4.out) (nn _)).trans HB4.out
  have HB6 := hide hb6
  have HK6 := hide (HK4.out.trans hk6)
  have HLA6 := hide (HLA.out.keeps hk6 (fun _ _ => nn _))
  have HNK6 := hide (HNK.out.keeps0 hk6)
  have HW6 := hide hW6
  have e0 := cell_blk hb6 0
  have e1 := cell_blk hb6 1
  have e2 := cell_blk hb6 2
  have e3 := cell_blk hb6 3
  simp at e0 e1 e2 e3
  clear hk5 hk6 hb6 hW6
  go_upto_region 4 with fail
  rw [HW6.out]
  go_region_held3 (SX W6 w3.heap.size oa ca ok ck9) ((refine SX.of HB6.out ?_; first | exact (Keeps.refl [] W6).drew | exact (‹SX W6 w3.heap.size oa ca ok ck9 _›).1.trans hkx | exact (‹SX W6 w3.heap.size oa ca ok ck9 _›).1.alloc _ | exact (‹SX W6 w3.heap.size oa ca ok ck9 _›).1.drewN _))
    (first
      | (go_at_call 95; refine (doc95_any _).mono ?_; rintro e w7 ⟨v7, rfl, hV7, hkx⟩; have HV7 := hide hV7; obtain ⟨oa7, ca7, ok7, ck7, rfl, hA7, hN7⟩ := hV7)
      | (go_at_call 96; refine (ck.out _ _ HV7.out).mono ?_; rintro e w8 ⟨rfl, hkx⟩)
      | (go_at_call 25
         have hS9 := (‹SX W6 w3.heap.size oa ca ok ck9 _›).1
         refine (same_one (n := docN) (a1 := .slice oa docN.attrs.length ca) (k1 := .slice ok docN.kids.length ck9) (a2 := .slice oa7 docN.attrs.length ca7) (k2 := .slice ok7 docN.kids.length ck7) ?_ ?_ ?_ ?_ ?_ ?_).mono ?_
         · first | exact old_blk hkx _ | exact two_fst w7 _ _ | exact two_snd w7 _ _
         · exact (HLA6.out.mono (fun _ _ _ => trivial)).keeps hS9 (fun _ _ => List.not_mem_nil)
         · exact (HNK6.out.mono (fun _ _ _ => trivial)).keeps0 hS9
         · first | exact heap_alloc_new w7 _ | exact two_snd w7 _ _ | exact two_fst w7 _ _
         · first | exact hA7.keeps ((Keeps.refl [] w7).alloc _) (fun _ _ => List.not_mem_nil) | exact hA7.keeps (((Keeps.refl [] w7).alloc _).alloc _) (fun _ _ => List.not_mem_nil)
         · first | exact hN7.keeps0 ((Keeps.refl [] w7).alloc _) | exact hN7.keeps0 (((Keeps.refl [] w7).alloc _).alloc _)
         rintro e w9 ⟨rfl, n9, rfl⟩))
  all_goals go_wp2_with fail
  all_goals go_ret
  all_goals exact ⟨rfl, HK6.out.trans (‹SX W6 w3.heap.size oa ca ok ck9 _›).1⟩
end Go.Proofs.YtlcljanibjdejaaGreat
namespace Go.Proofs.YtlcljanibjdejaaGreat
open Go.RowKit Go.Maps
theorem strictX_bulk {raw r v r2 : List UInt8} (h : strictX raw r = .ok (v, r2)) : v.length ≤ 4 * raw.length ∧ r2 = r := by
  obtain ⟨h1, h2⟩ := strictX_ok h
  have := takeL_len raw
  rw [← h1] at this
  exact ⟨this, h2⟩
theorem valueX_bulk {l v r : List UInt8} (h : valueX l = .ok (v, r)) : v.length + 4 * r.length + 8 ≤ 4 * l.length := by
  unfold valueX at h
  split at h
  · injection h
  · rename_i l1 h1
    split at h
    · injection h
    · rename_i l2 h2
      have a0 := strictX_bulk h
      have a1 := mustX_ok h1
      have a2 := mustX_ok h2
      have a3 := takeDrop_len (notQ (quoteX l)) l1
      obtain ⟨a4, rfl⟩ := a0
      simp at a1 a2
      omega
theorem attrX_bulk {l r : List UInt8} {p : Pair} (h : attrX l = .ok (p, r)) : p.1.length + p.2.length + 2 + 8 * r.length ≤ 8 * l.length := by
  unfold attrX at h
  split at h
  · injection h
  · rename_i n l1 h1
    split at h
    · injection h
    · rename_i l2 h2
      split at h
      · injection h
      · rename_i v l3 h3
        injection h with h
        injection h with h4 h5
        subst h4 h5
        have a1 := titleX_ok h1
        have a2 := mustX_ok h2
        have a3 := valueX_bulk h3
        have a4 := drop_le whiteX l1
        have a5 := drop_le whiteX l2
        simp at a2
        simp only
        omega
theorem bulkP_snoc (a : List Pair) (p : Pair) : bulkP (a ++ [p]) = bulkP a + (p.1.length + p.2.length + 2) := by simp [bulkP]
theorem attrsX_bulk : ∀ (f : Nat) (met : List Pair) (l : List UInt8) (a : List Pair) (r : List UInt8), attrsX f met l = .ok (a, r) → bulkP a + 8 * r.length ≤ bulkP met + 8 * l.length
  | 0, met, l, a, r, h => by
    rw [attrsX] at h
    injection h with h
    injection h with h1 h2
    subst h1 h2
    exact Nat.le_refl _
  | f + 1, met, l, a, r, h => by
    rw [attrsX] at h
    have a0 := drop_le whiteX l
    split at h
    · split at h
      · injection h
      · rename_i p l2 h2
        have h3 := attrX_bulk h2
        split at h
        · injection h
        · have := attrsX_bulk f _ _ a r h
          rw [bulkP_snoc] at this
          omega
    · injection h with h
      injection h with h1 h2
      subst h1 h2
      omega
theorem tagX_bulk {d : Nat} {l r n : List UInt8} {a : List Pair} {e : Bool} (h : tagX d l = .ok ((n, a, e), r)) : n.length + bulkP a + 3 + 8 * r.length ≤ 8 * l.length := by
  unfold tagX at h
  split at h
  · injection h
  · rename_i l1 h1
    split at h
    · injection h
    · rename_i m l2 h2
      split at h
      · injection h
      · split at h
        · injection h
        · rename_i b l3 h3
          have a1 := mustX_ok h1
          have a2 := titleX_ok h2
          have a3 := attrsX_bulk _ _ _ _ _ h3
          have a0 : bulkP [] = 0 := rfl
          simp at a1
          split at h
          · rename_i hp
            injection h with h
            injection h with h4 h5
            injection h4 with h6 h7
            injection h7 with h8 h9
            subst h5 h6 h8
            have := (List.isPrefixOf_iff_prefix.1 hp).length_le
            simp at this
            simp
            omega
          · split at h
            · injection h
            · rename_i l4 h4
              have a4 := mustX_ok h4
              simp at a4
              injection h with h
              injection h with h4 h5
              injection h4 with h6 h7
              injection h7 with h8 h9
              subst h5 h6 h8
              omega
theorem pieceX_said_bulk {l t r : List UInt8} (h : pieceX l = .said (.ok (t, r))) : t.length + 3 + 8 * r.length ≤ 8 * l.length := by
  have h0 := pieceX_said h
  unfold pieceX at h
  split at h
  · simp at h
  · rename_i c l0
    split at h
    · simp at h
    · simp at h
    · split at h
      · injection h with h
        have a1 := toX_ok h
        simp at a1 h0 ⊢
        omega
      · split at h
        · simp at h
        · injection h with h
          have a0 := strictX_bulk h
          have a3 := takeDrop_len noLt (c :: l0)
          obtain ⟨a4, rfl⟩ := a0
          omega
def Lst.heft (s : Lst) : Nat := bulkNs s.all + if s.text = [] then 0 else s.text.length + 3
theorem bulk_done (s : Lst) : bulkNs s.done = s.heft := by
  unfold Lst.done Lst.heft
  cases ht : s.text with
  | nil => simp
  | cons c r =>
    simp only [List.isEmpty_cons, Bool.false_eq_true, if_false]
    rw [bulkNs_append]
    simp [textN, bulkNs, bulkP]
theorem bulk_put_text (s : Lst) (t : List UInt8) : (s.put (textN t)).heft ≤ s.heft + t.length + 3 := by
  simp only [Lst.put, textN, Nd.name, Nd.text, List.isEmpty_nil, if_true, Lst.heft, List.length_append]
  split <;> split <;> simp_all <;> omega
theorem bulk_put_el (s : Lst) (n : Nd) (hn : n.name ≠ []) : (s.put n).heft = s.heft + bulkNs [n] := by
  have he : n.name.isEmpty = false := by simpa using hn
  have hd := bulk_done s
  simp only [Lst.put, he, Bool.false_eq_true, if_false]
  unfold Lst.heft
  simp only
  rw [bulkNs_append, hd]
  simp [Lst.heft]
theorem bulk_all : ∀ f : Nat, (∀ (d : Nat) (l : List UInt8) (n : Nd) (r : List UInt8), elementX f d l = .ok (n, r) → bulkNs [n] + 8 * r.length ≤ 8 * l.length) ∧
    (∀ (d : Nat) (acc : Lst) (l : List UInt8) (ks : List Nd) (r : List UInt8), kidsX f d acc l = .ok (ks, r) → bulkNs ks + 8 * r.length ≤ acc.heft + 8 * l.length) := by
  intro f
  induction f with
  | zero =>
    constructor
    · intro d l n r h; rw [elementX] at h; injection h
    · intro d acc l ks r h; rw [kidsX] at h; injection h
  | succ f ih =>
    have b0 : bulkNs [] = 0 := by simp [bulkNs]
    constructor
    · intro d l n r h
      rw [elementX] at h
      split at h
      · injection h
      · rename_i nm a r1 h1
        have h2 := tagX_bulk h1
        injection h with h
        injection h with h3 h4
        subst h3 h4
        have h5 := bulkNs_cons (.mk nm a [] []) []
        simp only [Nd.name, Nd.text, Nd.attrs, Nd.kids, List.length_nil] at h5
        omega
      · rename_i nm a r1 h1
        have h2 := tagX_bulk h1
        split at h
        · injection h
        · rename_i ks r2 hk
          have h5 := ih.2 d ⟨[], []⟩ r1 ks r2 hk
          split at h
          · injection h
          · rename_i r3 h6
            have h7 := endX_ok h6
            injection h with h
            injection h with h3 h4
            subst h3 h4
            have h8 := bulkNs_cons (.mk nm a [] ks) []
            simp only [Nd.name, Nd.text, Nd.attrs, Nd.kids, List.length_nil] at h8
            have h9 : Lst.heft ⟨[], []⟩ = 0 := by simp [Lst.heft, bulkNs]
            omega
    · intro d acc l ks r h
      rw [kidsX] at h
      split at h
      · injection h with h
        injection h with h3 h4
        subst h3 h4
        rw [bulk_done]
        exact Nat.le_refl _
      · split at h
        · injection h
        · rename_i r1 h1
          have h2 := pieceX_over h1
          have h3 := ih.2 d acc r1 ks r h
          omega
        · injection h
        · rename_i t r1 h1
          have h2 := pieceX_said_bulk h1
          have h4 := bulk_put_text acc t
          have h3 := ih.2 d _ r1 ks r h
          omega
        · split at h
          · injection h
          · rename_i n r1 h1
            have h2 := ih.1 (d + 1) l n r1 h1
            have h4 := bulk_put_el acc n ((right_all f).1 (d + 1) l n r1 h1).1
            have h3 := ih.2 d _ r1 ks r h
            omega
theorem readX_bulk {l : List UInt8} {n : Nd} (h : readX l = .ok n) : bulkNs [n] ≤ 24000 ∧ chkXml n = 0 ∧ l.length ≤ 3000 := by
  unfold readX at h
  split at h
  · injection h
  · rename_i hl
    have hr := docX_right h
    refine ⟨?_, (chkXml_ok n).2 ⟨by omega, hr.1, hr.2.1⟩, by omega⟩
    unfold docX at h
    split at h
    · injection h
    · rename_i l1 h1
      have a1 := miscX_ok _ _ _ h1
      split at h
      · injection h
      · rename_i m l2 h2
        have h3 := (bulk_all _).1 1 l1 m l2 h2
        split at h
        · injection h
        · injection h with h
          subst h
          omega
        · injection h
theorem readX_print {n : Nd} (h : chkXml n = 0) (hl : (printX n).length ≤ 3000) : readX (printX n) = .ok n := by
  have h2 := (chkXml_ok n).1 h
  unfold readX
  rw [if_neg (by omega)]
  exact doc_print n h2.2.1 h2.2.2
end Go.Proofs.YtlcljanibjdejaaGreat

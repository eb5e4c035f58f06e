/- XmlText holds: for every input it returns true, and each argument reads behind the call as it read before. -/
import Derived.Test.YtlcljanibjdejaaGreatXt12
import Derived.Deep.RegionHeld3
import Derived.ProofKit
import Derived.OpenShut
import Derived.ShutString
import Derived.JoinedCond
import Derived.HandedShaped
import Derived.Carry
import Derived.SizedLaws
namespace Go.Proofs.YtlcljanibjdejaaGreat
open Go.RowKit Go.Maps
theorem ns_newP (w : World) (P : Nat → Prop) (l : List Pn) (cs : Array Value) (hcs : cs.toList = pnsCells l) (hn : l.length ≤ maxLen) (ha : ∀ p ∈ l, p.av = .slice none 0 0 ∧ p.nd.attrs = []) (hk : ∀ p ∈ l, Ns w P p.kv p.nd.kids) (hP : P w.heap.size) :
    Ns (w.alloc (.cells cs 45)) P (.slice (some ⟨w.heap.size, 0, none⟩) l.length l.length) (l.map Pn.nd) := by
  refine .mk _ l _ rfl ⟨pnsCells_len l, .inr ⟨w.heap.size, 0, l.length, rfl, Nat.le_refl _, hn, by simp, hP, fun j u hj => ?_⟩⟩ (fun p hp => ?_) (fun p hp => (hk p hp).keeps0 ((Keeps.refl [] w).alloc _))
  · rw [← hcs] at hj
    have := lit_cells w cs 45 j u hj
    rw [add_zero] at this
    rw [Nat.zero_add]
    exact this
  · rw [(ha p hp).1, (ha p hp).2]
    exact ⟨rfl, .inl ⟨rfl, none, 0, rfl, by simp [maxLen]⟩⟩
def docN : Nd := .mk [114] [([97], [60, 38])] [] [.mk [] [] [120] [], .mk [110, 58, 101] [] [] []]
set_option maxRecDepth 8000 in
set_option maxHeartbeats 4000000 in
theorem doc95_any (w : World) : Calls Tryz.prog 95 #[] w fun e w' => ∃ v, e = .returned v ∧ NdVal w' (fun _ => True) docN v ∧ Keeps [] w w' := by
  obtain ⟨W1, hW1⟩ : ∃ W1, w.alloc (.cells #[.string ⟨#[]⟩, .slice none 0 0, .string ⟨#[]⟩, .slice none 0 0] 45) = W1 := ⟨_, rfl⟩
  obtain ⟨W2, hW2⟩ : ∃ W2, W1.alloc (.cells #[.string ⟨#[97]⟩, .string ⟨#[60, 38]⟩] 52) = W2 := ⟨_, rfl⟩
  obtain ⟨W3, hW3⟩ : ∃ W3, W2.alloc (.cells #[.string ⟨#[]⟩, .slice none 0 0, .string ⟨#[120]⟩, .slice none 0 0, .string ⟨#[110, 58, 101]⟩, .slice none 0 0, .string ⟨#[]⟩, .slice none 0 0] 45) = W3 := ⟨_, rfl⟩
  have b1 := blk_new rfl hW1
  have b2 := blk_new b1.2 hW2
  have b3 := blk_new b2.2 hW3
  have hk1 : Keeps [] w W1 := by rw [← hW1]; exact (Keeps.refl [] w).alloc _
  have hk2 : Keeps [] w W2 := by rw [← hW2]; exact hk1.alloc _
  have hk3 : Keeps [] w W3 := by rw [← hW3]; exact hk2.alloc _
  have n3 := ns_newP W2 (fun g => w.heap.size < g) [⟨.mk [] [] [120] [], .slice none 0 0, .slice none 0 0⟩, ⟨.mk [110, 58, 101] [] [] [], .slice none 0 0, .slice none 0 0⟩] #[.string ⟨#[]⟩, .slice none 0 0, .string ⟨#[120]⟩, .slice none 0 0, .string ⟨#[110, 58, 101]⟩, .slice none 0 0, .string ⟨#[]⟩, .slice none 0 0] rfl (by simp [maxLen]) (by intro p hp; simp at hp; rcases hp with rfl | rfl <;> exact ⟨rfl, rfl⟩) (by intro p hp; simp at hp; rcases hp with rfl | rfl <;> exact Ns.nil _ _ none 0 (by simp [maxLen])) (by omega)
  rw [hW3, b2.2] at n3
  have a1 : W3.heap[w.heap.size]? = some (.cells #[.string ⟨#[]⟩, .slice none 0 0, .string ⟨#[]⟩, .slice none 0 0] 45 (0, 0)) := blk_old (blk_old b1.1 (by omega) hW2) (by omega) hW3
  have a2 : W3.heap[w.heap.size + 1]? = some (.cells #[.string ⟨#[97]⟩, .string ⟨#[60, 38]⟩] 52 (0, 0)) := blk_old b2.1 (by omega) hW3
  have hla : LiesP W3 (fun g => w.heap.size < g) (.slice (some ⟨w.heap.size + 1, 0, none⟩) 1 1) 1 2 (pairCells [([97], [60, 38])]) := by
    refine ⟨rfl, .inr ⟨w.heap.size + 1, 0, 1, rfl, Nat.le_refl _, by simp [maxLen], by omega, by omega, fun j u hj => ?_⟩⟩
    rw [Nat.zero_add]
    have := cell_blk a2 j
    rw [this]
    simpa [pairCells] using hj
  have z0 := cell_blk a1 0
  have z1 := cell_blk a1 1
  have z2 := cell_blk a1 2
  have z3 := cell_blk a1 3
  have g0 := free_blk a1 0
  have g1 := free_blk a1 1
  have g2 := free_blk a1 2
  have g3 := free_blk a1 3
  simp at z0 z1 z2 z3
  have s1 := b1.2
  have s2 := b2.2
  have A1 := hide a1
  have HLA := hide hla
  have HNK := hide n3
  have HK3 := hide hk3
  clear a1 a2 hla n3 b1 b2 b3 hk1 hk2 hk3
  have hres : ∀ (tmps : Array Value) (w3 : World) (cs : Array Value), cs.size = 4 → tmps.getD 0 undef = .pointer (some ⟨w.heap.size, 0, none⟩) → w3.heap[w.heap.size]? = some (.cells cs 45 (0, 0)) → (results Tryz.f95 tmps).run Tryz.prog w3 = .ok (.agg cs) w3 := fun tmps w3 cs hc hp hg => results_cell_row (P := Tryz.prog) rfl tmps w3 _ 45 cs (0, 0) _ hp hg Tryz.underlying45 rfl (by rw [hc]; kernel_rfl)
  go_enter Tryz.func95, Tryz.ntmps95
  go_wp2_with fail
  have hks := set4_keeps W3 w.heap.size (.string ⟨#[114]⟩) (.slice (some ⟨w.heap.size + 1, 0, none⟩) 1 1) (.string ⟨#[]⟩) (.slice (some ⟨w.heap.size + 1 + 1, 0, none⟩) 2 2)
  refine ⟨rfl, _, hres _ _ #[.string ⟨#[114]⟩, .slice (some ⟨w.heap.size + 1, 0, none⟩) 1 1, .string ⟨#[]⟩, .slice (some ⟨w.heap.size + 1 + 1, 0, none⟩) 2 2] rfl rfl (set4_blk _ _ _ _ A1.out), _, rfl, ⟨some ⟨w.heap.size + 1, 0, none⟩, 1, some ⟨w.heap.size + 1 + 1, 0, none⟩, 2, rfl, ?_, ?_⟩, keeps_on HK3.out hks (fun g hg hlt => by simp at hg; omega)⟩
  · exact (HLA.out.keeps hks (fun g hg hm => by simp at hm; omega)).mono (fun _ _ _ => trivial)
  · exact (HNK.out.keeps hks (fun g hg hm => by simp at hm; omega)).mono (fun _ _ _ => trivial)
end Go.Proofs.YtlcljanibjdejaaGreat
namespace Go.Proofs.YtlcljanibjdejaaGreat
open Go.RowKit Go.Maps
def xmT : List UInt8 := [60,63,120,109,108,32,118,101,114,115,105,111,110,61,39,49,46,48,39,63,62,60,33,45,45,32,99,32,45,45,62,60,114,32,97,32,61,32,39,38,108,116,59,38,97,109,112,59,39,62,120,60,110,58,101,62,60,47,110,58,101,32,62,60,47,114,62,32]
def xmO : List UInt8 := [60, 114, 32, 97, 61, 34, 38, 108, 116, 59, 38, 97, 109, 112, 59, 34, 62, 120, 60, 110, 58, 101, 47, 62, 60, 47, 114, 62]
theorem xm_read : readX xmT = .ok docN := by kernel_rfl
theorem xm_state : readX [60, 97, 62, 60, 47, 98, 62] = .error 4 := by kernel_rfl
theorem xm_check : chkXml docN = 0 := by
  rw [chkXml_ok]
  refine ⟨by simp [docN, sizeNs], by simp [docN, Nd.name], ?_⟩
  simp [docN, RtX, isTitleL, chkAX]
  decide
theorem xm_print : printX docN = xmO := by
  simp only [docN, printX, printXs]
  kernel_rfl
theorem xm_bulk : bulkNs [docN] ≤ 1100000 := by simp [docN, bulkNs, bulkP]
theorem cell_all {w w' : World} (hk : Keeps [] w w') {g : Nat} {cs : Array Value} {ty : TypeId} (h : w.heap[g]? = some (.cells cs ty (0, 0))) (j : Nat) : w'.cell? ⟨g, j, none⟩ = cs[j]? := cell_blk ((hk.block _ (lt_of_block h) List.not_mem_nil).trans h) j
theorem ns_blk {w : World} {P : Nat → Prop} {n : Nd} {av kv : Value} {g : Nat} (hb : w.heap[g]? = some (.cells #[.string ⟨n.name.toArray⟩, av, .string ⟨n.text.toArray⟩, kv] 45 (0, 0))) (ha : LiesP w P av n.attrs.length 2 (pairCells n.attrs)) (hk : Ns w P kv n.kids) (hP : P g) :
    Ns w P (.slice (some ⟨g, 0, none⟩) 1 1) [n] := by
  refine .mk _ [⟨n, av, kv⟩] _ rfl ⟨by simp [pnsCells, pnCells], .inr ⟨g, 0, 1, rfl, Nat.le_refl _, by simp [maxLen], lt_of_block hb, hP, fun j u hj => ?_⟩⟩ (fun p hp => ?_) (fun p hp => ?_)
  · rw [Nat.zero_add, cell_blk hb j]
    simpa [pnsCells, pnCells] using hj
  · simp at hp; subst hp
    exact ha
  · simp at hp; subst hp
    exact hk
theorem old_blk {w8 w7 : World} {o1 : Obj} (h : Keeps [] (w8.alloc o1) w7) (o2 : Obj) : (w7.alloc o2).heap[w8.heap.size]? = some o1 := by
  have h1 := h.size
  simp at h1
  exact (((Keeps.refl [] w7).alloc o2).block _ (by omega) List.not_mem_nil).trans ((h.block _ (by simp) List.not_mem_nil).trans (heap_alloc_new w8 o1))
theorem same_one {n : Nd} {Wc : World} {g1 g2 : Nat} {a1 k1 a2 k2 : Value} (h1 : Wc.heap[g1]? = some (.cells #[.string ⟨n.name.toArray⟩, a1, .string ⟨n.text.toArray⟩, k1] 45 (0, 0))) (hA1 : LiesP Wc (fun _ => True) a1 n.attrs.length 2 (pairCells n.attrs)) (hN1 : Ns Wc (fun _ => True) k1 n.kids)
    (h2 : Wc.heap[g2]? = some (.cells #[.string ⟨n.name.toArray⟩, a2, .string ⟨n.text.toArray⟩, k2] 45 (0, 0))) (hA2 : LiesP Wc (fun _ => True) a2 n.attrs.length 2 (pairCells n.attrs)) (hN2 : Ns Wc (fun _ => True) k2 n.kids) :
    Calls Tryz.prog 25 #[.slice (some ⟨g1, 0, none⟩) 1 1, .slice (some ⟨g2, 0, none⟩) 1 1] Wc fun e w' => e = .returned (.bool true) ∧ ∃ m, w' = Wc.drewN m :=
  sameNodes_eq _ _ Wc _ [n] (ns_blk h1 hA1 hN1 trivial) _ Wc (Keeps.refl _ _) (ns_blk h2 hA2 hN2 trivial)
/-- Behind xmlBegun's reading: what was read lies where it lay. -/
@[reducible] def SX (W6 : World) (g : Nat) (oa : Option Addr) (ca : Nat) (ok : Option Addr) (ck : Nat) (w' : World) : Prop :=
  Keeps [] W6 w' ∧ w'.cell? ⟨g, 0, none⟩ = some (.string ⟨docN.name.toArray⟩) ∧ w'.cell? ⟨g, 1, none⟩ = some (.slice oa docN.attrs.length ca) ∧ w'.cell? ⟨g, 2, none⟩ = some (.string ⟨docN.text.toArray⟩) ∧ w'.cell? ⟨g, 3, none⟩ = some (.slice ok docN.kids.length ck)
theorem SX.of {W6 w' : World} {g : Nat} {oa ok : Option Addr} {ca ck : Nat} (hb : W6.heap[g]? = some (.cells #[.string ⟨docN.name.toArray⟩, .slice oa docN.attrs.length ca, .string ⟨docN.text.toArray⟩, .slice ok docN.kids.length ck] 45 (0, 0))) (hk : Keeps [] W6 w') : SX W6 g oa ca ok ck w' :=
  ⟨hk, cell_all hk hb 0, cell_all hk hb 1, cell_all hk hb 2, cell_all hk hb 3⟩
set_option maxRecDepth 8000 in
set_option maxHeartbeats 8000000 in
theorem xmlBegun_any (w : World) (hM : HasMax w) : Calls Tryz.prog 28 #[] w fun e w' => e = .returned (.bool true) ∧ Keeps [] w w' := by
  have nn : ∀ g, g ∉ ([] : List Nat) := fun _ => List.not_mem_nil
  have hm0 := hide (fun (w1 : World) (hk : Keeps [] w w1) => hM.keeps hk (nn _))
  have pr := hide (fun (w1 : World) (v : Value) (hV : NdVal w1 (fun _ => True) docN v) => xmlPrint_any w1 _ docN v hV xm_bulk)
  rw [xm_check, if_pos rfl, xm_print] at pr
  have ck := hide (fun (w1 : World) (v : Value) (hV : NdVal w1 (fun _ => True) docN v) => xmlCheck_any w1 _ docN v hV (by have := bulkNs_size [docN]; have := xm_bulk; omega) (bulkNs_fits [docN] xm_bulk).1)
  rw [xm_check] at ck
  have r1 := hide (fun (w1 : World) (hk : Keeps [] w w1) => (xmlRead_any xmT w1 (hm0.out w1 hk) (by unfold xmT maxLen; decide)).mono (R' := fun e w' => (∃ v, e = .returned (.tuple #[v, .int .i64 0]) ∧ DocOut w1 docN v w') ∧ Keeps [] w1 w') (fun e w' h => ⟨h.1.elim (fun ⟨n, v, h1, h2⟩ => by rw [xm_read] at h1; injection h1 with h1; subst h1; exact ⟨v, h2⟩) (fun ⟨k, h1, _⟩ => by rw [xm_read] at h1; injection h1), h.2⟩))
  have r2 := hide (fun (w1 : World) (hk : Keeps [] w w1) => (xmlRead_any [60, 97, 62, 60, 47, 98, 62] w1 (hm0.out w1 hk) (by unfold maxLen; decide)).mono (R' := fun e w' => e = .returned (.tuple #[zeroN, .int .i64 4]) ∧ Keeps [] w1 w') (fun e w' h => ⟨h.1.elim (fun ⟨n, v, h1, _⟩ => by rw [xm_state] at h1; injection h1) (fun ⟨k, h1, h2⟩ => by rw [xm_state] at h1; injection h1 with h1; subst h1; exact h2), h.2⟩))
  unfold zeroN at r2
  unfold xmT at r1
  have hxo : xmO = [60, 114, 32, 97, 61, 34, 38, 108, 116, 59, 38, 97, 109, 112, 59, 34, 62, 120, 60, 110, 58, 101, 47, 62, 60, 47, 114, 62] := rfl
  rw [hxo] at pr
  clear hxo hM
  go_enter Tryz.func28, Tryz.ntmps28
  go_wp2_with fail
  refine (doc95_any _).mono ?_
  rintro e w1 ⟨v1, rfl, hV1, hk1⟩
  have p1 := hide (pr.out w1 v1 hV1)
  obtain ⟨oa1, ca1, ok1, ck1, rfl, _, _⟩ := hV1
  have HK1 := hide hk1
  clear hk1
  go_wp2_with fail
  refine p1.out.mono ?_
  rintro e w2 ⟨rfl, hk2⟩
  have HK2 := hide (HK1.out.trans hk2)
  clear hk2
  go_wp2_with fail
  refine (r1.out w2 HK2.out).mono ?_
  rintro e w3 ⟨⟨v3, rfl, hD3⟩, hk3⟩
  obtain ⟨oa, ca, ok, ck9, rfl, hLA, hNK⟩ := hD3.parts
  obtain ⟨W4, hW4⟩ : ∃ W4, w3.alloc (.cells #[.string ⟨docN.name.toArray⟩, .slice oa docN.attrs.length ca, .string ⟨docN.text.toArray⟩, .slice ok docN.kids.length ck9] 45) = W4 := ⟨_, rfl⟩
  have hk4 : Keeps [] w3 W4 := by rw [← hW4]; exact (Keeps.refl [] w3).alloc _
  have b4 := blk_new rfl hW4
  have HK4 := hide ((HK2.out.trans hk3).trans hk4)
  have HLA := hide (hLA.keeps hk4 (fun _ _ => nn _))
  have HNK := hide (hNK.keeps0 hk4)
  have HB4 := hide b4.1
  have HW4 := hide hW4
  clear hk3 hk4 hW4 b4 hLA hNK hD3
  go_upto_region 3 with fail
  rw [HW4.out]
  go_wp2_with fail
  refine (r2.out W4 HK4.out).mono ?_
  rintro e w5 ⟨rfl, hk5⟩
  obtain ⟨W6, hW6⟩ : ∃ W6, w5.alloc (.cells #[.string ⟨#[]⟩, .slice none 0 0, .string ⟨#[]⟩, .slice none 0 0] 45) = W6 := ⟨_, rfl⟩
  have hk6 : Keeps [] W4 W6 := by rw [← hW6]; exact hk5.alloc _
  have hb6 := (hk6.block _ (lt_of_block HB4.out) (nn _)).trans HB4.out
  have HB6 := hide hb6
  have HK6 := hide (HK4.out.trans hk6)
  have HLA6 := hide (HLA.out.keeps hk6 (fun _ _ => nn _))
  have HNK6 := hide (HNK.out.keeps0 hk6)
  have HW6 := hide hW6
  have e0 := cell_blk hb6 0
  have e1 := cell_blk hb6 1
  have e2 := cell_blk hb6 2
  have e3 := cell_blk hb6 3
  simp at e0 e1 e2 e3
  clear hk5 hk6 hb6 hW6
  go_upto_region 4 with fail
  rw [HW6.out]
  go_region_held3 (SX W6 w3.heap.size oa ca ok ck9) ((refine SX.of HB6.out ?_; first | exact (Keeps.refl [] W6).drew | exact (‹SX W6 w3.heap.size oa ca ok ck9 _›).1.trans hkx | exact (‹SX W6 w3.heap.size oa ca ok ck9 _›).1.alloc _ | exact (‹SX W6 w3.heap.size oa ca ok ck9 _›).1.drewN _))
    (first
      | (go_at_call 95; refine (doc95_any _).mono ?_; rintro e w7 ⟨v7, rfl, hV7, hkx⟩; have HV7 := hide hV7; obtain ⟨oa7, ca7, ok7, ck7, rfl, hA7, hN7⟩ := hV7)
      | (go_at_call 96; refine (ck.out _ _ HV7.out).mono ?_; rintro e w8 ⟨rfl, hkx⟩)
      | (go_at_call 25
         have hS9 := (‹SX W6 w3.heap.size oa ca ok ck9 _›).1
         refine (same_one (n := docN) (a1 := .slice oa docN.attrs.length ca) (k1 := .slice ok docN.kids.length ck9) (a2 := .slice oa7 docN.attrs.length ca7) (k2 := .slice ok7 docN.kids.length ck7) ?_ ?_ ?_ ?_ ?_ ?_).mono ?_
         · first | exact old_blk hkx _ | exact two_fst w7 _ _ | exact two_snd w7 _ _
         · exact (HLA6.out.mono (fun _ _ _ => trivial)).keeps hS9 (fun _ _ => List.not_mem_nil)
         · exact (HNK6.out.mono (fun _ _ _ => trivial)).keeps0 hS9
         · first | exact heap_alloc_new w7 _ | exact two_snd w7 _ _ | exact two_fst w7 _ _
         · first | exact hA7.keeps ((Keeps.refl [] w7).alloc _) (fun _ _ => List.not_mem_nil) | exact hA7.keeps (((Keeps.refl [] w7).alloc _).alloc _) (fun _ _ => List.not_mem_nil)
         · first | exact hN7.keeps0 ((Keeps.refl [] w7).alloc _) | exact hN7.keeps0 (((Keeps.refl [] w7).alloc _).alloc _)
         rintro e w9 ⟨rfl, n9, rfl⟩))
  all_goals go_wp2_with fail
  all_goals go_ret
  all_goals exact ⟨rfl, HK6.out.trans (‹SX W6 w3.heap.size oa ca ok ck9 _›).1⟩
end Go.Proofs.YtlcljanibjdejaaGreat
namespace Go.Proofs.YtlcljanibjdejaaGreat
open Go.RowKit Go.Maps
theorem readX_print {n : Nd} (h : chkXml n = 0) (hl : (printX n).length ≤ 3000) : readX (printX n) = .ok n := by
  have h2 := (chkXml_ok n).1 h
  unfold readX
  rw [if_neg (by omega)]
  exact doc_print n h2.2.1 h2.2.2
end Go.Proofs.YtlcljanibjdejaaGreat
namespace Go.Proofs.YtlcljanibjdejaaGreat
open Go.RowKit Go.Maps
theorem NdVal.all {w : World} {P : Nat → Prop} {n : Nd} {v : Value} (h : NdVal w P n v) : NdVal w (fun _ => True) n v := h.mono (fun _ _ _ => trivial)
end Go.Proofs.YtlcljanibjdejaaGreat
namespace Go.Proofs.YtlcljanibjdejaaGreat
open Go.RowKit
theorem escBegun_put (w : World) : Calls Tryz.prog 32 #[.string ⟨#[60, 97, 32, 38, 32, 39, 98, 39, 62]⟩] w fun e w' =>
    e = .returned (.tuple #[.string ⟨#[38, 108, 116, 59, 97, 32, 38, 97, 109, 112, 59, 32, 39, 98, 39, 38, 103, 116, 59]⟩, .int .i64 0]) ∧ Keeps [] w w' :=
  (put_any _ w (by show (9 : Nat) ≤ maxLen; unfold maxLen; omega)).mono fun _ _ ⟨he, hk⟩ => ⟨he.trans (by kernel_rfl), hk⟩
theorem escBegun_take (w : World) : Calls Tryz.prog 101 #[.string ⟨#[38, 108, 116, 59, 38, 35, 54, 53, 59, 38, 35, 120, 50, 48, 97, 67, 59, 38, 97, 109, 112, 59, 38, 110, 111, 59, 38, 35, 48, 59]⟩] w fun e w' =>
    e = .returned (.tuple #[.string ⟨#[60, 65, 226, 130, 172, 38, 38, 110, 111, 59, 239, 191, 189]⟩, .int .i64 0]) ∧ Keeps [] w w' :=
  (take_any _ w (by show (30 : Nat) ≤ maxLen; unfold maxLen; omega)).mono fun _ _ ⟨he, hk⟩ => ⟨he.trans (by kernel_rfl), hk⟩
theorem escBegun_no (w : World) : Calls Tryz.prog 102 #[.string ⟨#[38, 110, 111, 59]⟩] w fun e w' =>
    e = .returned (.tuple #[.string ⟨#[]⟩, .int .i64 1]) ∧ Keeps [] w w' :=
  (strict_any _ w (by show (4 : Nat) ≤ maxLen; unfold maxLen; omega)).mono fun _ _ ⟨he, hk⟩ => ⟨he.trans (by kernel_rfl), hk⟩
theorem escBegun_apos (w : World) : Calls Tryz.prog 102 #[.string ⟨#[38, 97, 112, 111, 115, 59]⟩] w fun e w' =>
    e = .returned (.tuple #[.string ⟨#[39]⟩, .int .i64 0]) ∧ Keeps [] w w' :=
  (strict_any _ w (by show (6 : Nat) ≤ maxLen; unfold maxLen; omega)).mono fun _ _ ⟨he, hk⟩ => ⟨he.trans (by kernel_rfl), hk⟩
set_option maxRecDepth 100000 in
set_option maxHeartbeats 1000000 in
theorem escBegun_any (w : World) : Calls Tryz.prog 31 #[] w fun e w' => e = .returned (.bool true) ∧ Keeps [] w w' := by
  go_enter Tryz.func31, Tryz.ntmps31
  go_wp2_with fail
  refine (escBegun_put _).mono ?_
  rintro e w1 ⟨rfl, hk1⟩
  go_wp2_with fail
  refine (escBegun_take _).mono ?_
  rintro e w2 ⟨rfl, hk2⟩
  go_wp2_with fail
  refine (escBegun_no _).mono ?_
  rintro e w3 ⟨rfl, hk3⟩
  go_wp2_with fail
  refine (escBegun_apos _).mono ?_
  rintro e w4 ⟨rfl, hk4⟩
  go_wp2_with fail
  go_ret
  exact ⟨rfl, ((hk1.trans hk2).trans hk3).trans hk4⟩
end Go.Proofs.YtlcljanibjdejaaGreat
namespace Go.Proofs.YtlcljanibjdejaaGreat
open Go.RowKit Go.Maps
/-- The node of one attribute and one text. -/
def txN (s : List UInt8) : Nd := .mk [114] [([97], s)] [] [textN s]
def txO (s : List UInt8) : List UInt8 := [60, 114, 32, 97, 61, 34] ++ putL s ++ [34, 62] ++ putL s ++ [60, 47, 114, 62]
theorem txN_print (s : List UInt8) : printX (txN s) = txO s := by
  simp [txN, txO, textN, printX, printXs, pairsP, pairP]
theorem txN_ok {s : List UInt8} (hs : s ≠ []) : chkXml (txN s) = 0 := by
  rw [chkXml_ok]
  refine ⟨by simp [txN, textN, sizeNs], by simp [txN, Nd.name], ?_⟩
  simp [txN, textN, RtX, hs]
  refine ⟨by decide, ?_⟩
  have : isTitleL [97] = true := by decide
  simp [chkAX, this]
def cdN (s : List UInt8) : Nd := .mk [114] [] [] [textN s]
def cdO (s : List UInt8) : List UInt8 := [60, 114, 62, 60, 33, 91, 67, 68, 65, 84, 65, 91] ++ s ++ [93, 93, 62, 60, 47, 114, 62]
theorem cd_end {s : List UInt8} (h : ∀ j, j + 3 ≤ s.length → (s.drop j).take 3 ≠ [93, 93, 62]) : toX [93, 93, 62] (s ++ [93, 93, 62, 60, 47, 114, 62]) = .ok (s, [60, 47, 114, 62]) := by
  have hi : Lib.index (s ++ [93, 93, 62, 60, 47, 114, 62]) [93, 93, 62] = s.length := by
    refine Lib.index_first (by simp) (by simp [Lib.occAt]) (fun j hj => ?_)
    by_cases h3 : j + 3 ≤ s.length
    · have h9 := h j h3
      simp only [Lib.occAt]
      rw [Bool.eq_false_iff]
      intro hc
      obtain ⟨t, ht⟩ := List.isPrefixOf_iff_prefix.1 hc
      refine h9 ?_
      have h8 : ((s ++ [93, 93, 62, 60, 47, 114, 62]).drop j).take 3 = [93, 93, 62] := by rw [← ht]; rfl
      rw [List.drop_append_of_le_length (by omega), List.take_append_of_le_length (by simp; omega)] at h8
      exact h8
    · simp only [Lib.occAt]
      rw [Bool.eq_false_iff]
      intro hc
      obtain ⟨t, ht⟩ := List.isPrefixOf_iff_prefix.1 hc
      have h8 : (s ++ [93, 93, 62, 60, 47, 114, 62])[j + 2]? = some 62 := by
        have : ((s ++ [93, 93, 62, 60, 47, 114, 62]).drop j)[2]? = some 62 := by rw [← ht]; rfl
        rwa [List.getElem?_drop] at this
      rw [List.getElem?_append_right (by omega)] at h8
      have : j + 2 - s.length = 0 ∨ j + 2 - s.length = 1 := by omega
      rcases this with h7 | h7 <;> rw [h7] at h8 <;> simp at h8
  have he : endOf [93, 93, 62] (s ++ [93, 93, 62, 60, 47, 114, 62]) = some (s.length + 3) := by
    unfold endOf
    rw [hi]
    simp
  unfold toX
  rw [he]
  simp
theorem cd_read {s : List UInt8} (hs : s ≠ []) (hl : s.length ≤ 2900) (h : ∀ j, j + 3 ≤ s.length → (s.drop j).take 3 ≠ [93, 93, 62]) : readX (cdO s) = .ok (cdN s) := by
  have hlen : (cdO s).length = s.length + 19 := by simp [cdO]
  have hm : miscX ((cdO s).length + 1) (cdO s) = .ok (cdO s) := by
    rw [miscX]
    simp [cdO, headX, whiteX, remX, List.isPrefixOf]
  have e1 : cdO s = [60] ++ ([114] ++ (pairsP [] ++ ([62] ++ (cdata ++ (s ++ [93, 93, 62, 60, 47, 114, 62]))))) := by simp [cdO, cdata, pairsP]
  have hpc : pieceX (cdata ++ (s ++ [93, 93, 62, 60, 47, 114, 62])) = .said (.ok (s, [60, 47, 114, 62])) ∧ [60, 47].isPrefixOf (cdata ++ (s ++ [93, 93, 62, 60, 47, 114, 62])) = false := by
    constructor
    · rw [← cd_end h]
      simp [pieceX, remX, cdata, List.isPrefixOf]
    · simp [cdata, List.isPrefixOf]
  have hk : ∀ f, kidsX (f + 2) 1 ⟨[], []⟩ (cdata ++ (s ++ [93, 93, 62, 60, 47, 114, 62])) = .ok ([textN s], [60, 47, 114, 62]) := by
    intro f
    rw [kidsX, hpc.2, hpc.1]
    simp only [Bool.false_eq_true, if_false]
    rw [kidsX]
    rw [done_text ⟨[], []⟩ s rfl hs]
    simp [List.isPrefixOf, Lst.done]
  have he : ∀ f, elementX (f + 3) 1 (cdO s) = .ok (cdN s, []) := by
    intro f
    rw [elementX, e1, (tagX_of (n := [114]) (a := []) (by decide) (by simp [chkAX]) 1 (by omega) _).2]
    simp only [hk]
    have := endX_of (n := [114]) (by decide) []
    simp only [List.append_nil] at this
    rw [show ([60, 47, 114, 62] : List UInt8) = [60, 47] ++ ([114] ++ [62]) from rfl, this]
    rfl
  unfold readX
  rw [if_neg (by omega)]
  unfold docX
  rw [hm]
  simp only []
  rw [show 2 * (cdO s).length + 2 = (2 * (cdO s).length - 1) + 3 from by omega, he]
  rfl
theorem putL_len (s : List UInt8) : s.length ≤ (putL s).length := by
  induction s with
  | nil => simp
  | cons c r ih =>
    have h1 : 1 ≤ (putB c).length := by
      have := putB_neX c
      cases h : putB c with
      | nil => exact absurd h this
      | cons => simp
    simp only [putL, List.flatMap_cons, List.length_append, List.length_cons] at ih ⊢
    omega
end Go.Proofs.YtlcljanibjdejaaGreat
namespace Go.Proofs.YtlcljanibjdejaaGreat
open Go.RowKit Go.Maps
theorem one_attr {w : World} {P : Nat → Prop} {o : Option Addr} {c : Nat} {n s : List UInt8} (h : LiesP w P (.slice o 1 c) 1 2 (pairCells [(n, s)])) : ∃ g x, o = some ⟨g, x, none⟩ ∧ w.cell? ⟨g, x + 1, none⟩ = some (.string ⟨s.toArray⟩) := by
  rcases h.2 with ⟨h0, _⟩ | ⟨g, x, c', e, h1, h2, hlt, hP, hc⟩
  · exact absurd h0 (by decide)
  · injection e with e1 e2 e3
    exact ⟨g, x, e1, hc 1 _ (by simp [pairCells])⟩
theorem one_kid {w : World} {P : Nat → Prop} {o : Option Addr} {c : Nat} {s : List UInt8} (h : Ns w P (.slice o 1 c) [textN s]) : ∃ g x, o = some ⟨g, x, none⟩ ∧ w.cell? ⟨g, x + 2, none⟩ = some (.string ⟨s.toArray⟩) ∧ P g := by
  cases h with
  | mk v l ns e hl ha hk =>
    cases l with
    | nil => simp at e
    | cons p l =>
      simp only [List.map_cons, List.cons.injEq, List.map_eq_nil_iff] at e
      obtain ⟨e1, rfl⟩ := e
      rcases hl.2 with ⟨h0, _⟩ | ⟨g, x, c', e, h1, h2, hlt, hP, hc⟩
      · exact absurd h0 (by simp)
      · injection e with e1' e2 e3
        exact ⟨g, x, e1', hc 2 _ (by simp [pnsCells, pnCells, e1, textN, Nd.text]), hP⟩
/-- What Read answers of a text that is a node r with one attribute or none and one text in it. -/
def TxOut (B : Nat) (s : List UInt8) (a : Nat) (la : List Pair) (e : Ending) (w' : World) : Prop :=
  ∃ oa ca ok ck, e = .returned (.tuple #[.agg #[.string ⟨#[114]⟩, .slice oa a ca, .string ⟨#[]⟩, .slice ok 1 ck], .int .i64 0]) ∧ LiesP w' (fun g => B ≤ g) (.slice oa a ca) a 2 (pairCells la) ∧ Ns w' (fun g => B ≤ g) (.slice ok 1 ck) [textN s]
theorem read_tx {l s : List UInt8} {la : List Pair} (h : readX l = .ok (.mk [114] la [] [textN s])) (w : World) (hM : HasMax w) (hl : l.length ≤ maxLen) :
    Calls Tryz.prog 30 #[.string ⟨l.toArray⟩] w fun e w' => TxOut w.heap.size s la.length la e w' ∧ Keeps [] w w' :=
  (xmlRead_any l w hM hl).mono fun e w' ⟨h1, hk⟩ => ⟨by
    rcases h1 with ⟨n, v, hn, he, hD⟩ | ⟨k, hn, _⟩
    · rw [h] at hn
      injection hn with hn
      subst hn
      obtain ⟨oa, ca, ok, ck, rfl, hA, hN⟩ := hD.parts
      exact ⟨oa, ca, ok, ck, he, hA, hN⟩
    · rw [h] at hn
      injection hn, hk⟩
theorem tx_end (s : List UInt8) (j : Nat) : ((⟨s.toArray⟩ : ByteArray).extract j (j + 3)).toList = (s.drop j).take 3 := by
  rw [ByteArray.toList_eq, Lib.extract_data, Nat.add_sub_cancel_left]
set_option maxRecDepth 8000 in
set_option maxHeartbeats 16000000 in
theorem xmlText_law (s : List UInt8) (w : World) (hs : s.length ≤ maxLen) (hM : HasMax w) :
    Calls Tryz.prog 7 #[.string ⟨s.toArray⟩] w fun e w' => e = .returned (.bool true) ∧ Keeps [] w w' := by
  have nn : ∀ g, g ∉ ([] : List Nat) := fun _ => List.not_mem_nil
  have hpu := hide (fun w1 => put_any ⟨s.toArray⟩ w1 (by rw [str_size]; exact hs))
  rw [str_list] at hpu
  have hM := hide hM
  by_cases h3 : 3000 < s.length
  · unfold putAns at hpu
    rw [if_pos h3] at hpu
    unfold two at hpu
    clear h3 hs
    go_enter Tryz.func7, Tryz.ntmps7
    go_wp2_with fail
    refine (xmlBegun_any w hM.out).mono ?_
    rintro e w1 ⟨rfl, hk1⟩
    have HK1 := hide hk1
    clear hk1
    go_wp2_with fail
    refine (escBegun_any w1).mono ?_
    rintro e w2 ⟨rfl, hk2⟩
    have HK2 := hide (HK1.out.trans hk2)
    clear hk2
    go_wp2_with fail
    refine (hpu.out w2).mono ?_
    rintro e w3 ⟨rfl, hk3⟩
    have HK3 := hide (HK2.out.trans hk3)
    clear hk3
    go_wp2_with fail
    go_ret
    exact ⟨rfl, HK3.out⟩
  · unfold putAns at hpu
    rw [if_neg h3] at hpu
    unfold two at hpu
    have hTl := putL_le s
    have hsT := str_size (putL s)
    have wa : wrap64 (2 * ((putL s).length : Int)) = 2 * ((putL s).length : Int) := by unfold wrap64; omega
    have wb : wrap64 (2 * ((putL s).length : Int) + 30) = 2 * ((putL s).length : Int) + 30 := by unfold wrap64; omega
    by_cases hT : 2 * (putL s).length + 30 > 3000
    · have hd : decide ((3000 : Int) < 2 * ((putL s).length : Int) + 30) = true := by simp; omega
      generalize putL s = T at *
      clear hs hT
      go_enter Tryz.func7, Tryz.ntmps7
      go_wp2_with fail
      refine (xmlBegun_any w hM.out).mono ?_
      rintro e w1 ⟨rfl, hk1⟩
      have HK1 := hide hk1
      clear hk1
      go_wp2_with fail
      refine (escBegun_any w1).mono ?_
      rintro e w2 ⟨rfl, hk2⟩
      have HK2 := hide (HK1.out.trans hk2)
      clear hk2
      go_wp2_with fail
      refine (hpu.out w2).mono ?_
      rintro e w3 ⟨rfl, hk3⟩
      have HK3 := hide (HK2.out.trans hk3)
      clear hk3
      go_wp2_with fail
      go_ret
      exact ⟨rfl, HK3.out⟩
    · have hd : decide ((3000 : Int) < 2 * ((putL s).length : Int) + 30) = false := by simp; omega
      by_cases hs0 : s = []
      · have hse := strEq s []
        rw [decide_eq_true hs0] at hse
        have hem : s.isEmpty = true := by simpa using hs0
        generalize putL s = T at *
        clear hs hT h3 hs0
        go_enter Tryz.func7, Tryz.ntmps7
        go_wp2_with fail
        refine (xmlBegun_any w hM.out).mono ?_
        rintro e w1 ⟨rfl, hk1⟩
        have HK1 := hide hk1
        clear hk1
        go_wp2_with fail
        refine (escBegun_any w1).mono ?_
        rintro e w2 ⟨rfl, hk2⟩
        have HK2 := hide (HK1.out.trans hk2)
        clear hk2
        go_wp2_with fail
        refine (hpu.out w2).mono ?_
        rintro e w3 ⟨rfl, hk3⟩
        have HK3 := hide (HK2.out.trans hk3)
        clear hk3
        go_wp2_with fail
        go_ret
        exact ⟨rfl, HK3.out⟩
      · have hse := strEq s []
        rw [decide_eq_false hs0] at hse
        have hem : s.isEmpty = false := by simpa using hs0
        have rd1 := hide (fun (w1 : World) (hk : Keeps [] w w1) => read_tx (s := s) (l := txO s) (la := [([97], s)]) (by rw [← txN_print]; exact readX_print (txN_ok hs0) (by rw [txN_print]; simp [txO]; omega)) w1 (hM.out.keeps hk (nn _)) (by simp [txO]; unfold maxLen; omega))
        have rd2 := hide (fun (h9 : ∀ j, j + 3 ≤ s.length → (s.drop j).take 3 ≠ [93, 93, 62]) (w1 : World) (hk : Keeps [] w w1) => read_tx (s := s) (l := cdO s) (la := []) (cd_read hs0 (by have := putL_len s; omega) h9) w1 (hM.out.keeps hk (nn _)) (by have := putL_len s; simp [cdO]; unfold maxLen; omega))
        unfold TxOut at rd1 rd2
        have hll := putL_len s
        obtain ⟨S1, h1⟩ : ∃ S, (⟨#[60, 114, 32, 97, 61, 34]⟩ : ByteArray) ++ ⟨(putL s).toArray⟩ = S := ⟨_, rfl⟩
        obtain ⟨S2, h2⟩ : ∃ S, S1 ++ ⟨#[34, 62]⟩ = S := ⟨_, rfl⟩
        obtain ⟨S3, h3'⟩ : ∃ S, S2 ++ ⟨(putL s).toArray⟩ = S := ⟨_, rfl⟩
        obtain ⟨S4, h4⟩ : ∃ S, S3 ++ ⟨#[60, 47, 114, 62]⟩ = S := ⟨_, rfl⟩
        have e1 : S1 = ⟨([60, 114, 32, 97, 61, 34] ++ putL s).toArray⟩ := by rw [← h1]; exact app2 [60, 114, 32, 97, 61, 34] (putL s)
        have e2 : S2 = ⟨([60, 114, 32, 97, 61, 34] ++ putL s ++ [34, 62]).toArray⟩ := by rw [← h2, e1]; exact app2 ([60, 114, 32, 97, 61, 34] ++ putL s) [34, 62]
        have e3 : S3 = ⟨([60, 114, 32, 97, 61, 34] ++ putL s ++ [34, 62] ++ putL s).toArray⟩ := by rw [← h3', e2]; exact app2 ([60, 114, 32, 97, 61, 34] ++ putL s ++ [34, 62]) (putL s)
        have e4 : S4 = ⟨(txO s).toArray⟩ := by rw [← h4, e3]; exact app2 ([60, 114, 32, 97, 61, 34] ++ putL s ++ [34, 62] ++ putL s) [60, 47, 114, 62]
        have z1 : S1.size = 6 + (putL s).length := by rw [e1, str_size]; simp; omega
        have z2 : S2.size = 8 + (putL s).length := by rw [e2, str_size]; simp; omega
        have z3 : S3.size = 8 + (putL s).length + (putL s).length := by rw [e3, str_size]; simp; omega
        have q1 : ¬ 9223372036854775807 < 6 + (putL s).length := by omega
        have q2 : ¬ 9223372036854775807 < 6 + (putL s).length + 2 := by omega
        have q3 : ¬ 9223372036854775807 < 8 + (putL s).length + (putL s).length := by omega
        have q4 : ¬ 9223372036854775807 < 8 + (putL s).length + (putL s).length + 4 := by omega
        rw [← e4] at rd1
        obtain ⟨R1, g1⟩ : ∃ S, (⟨#[60, 114, 62, 60, 33, 91, 67, 68, 65, 84, 65, 91]⟩ : ByteArray) ++ ⟨s.toArray⟩ = S := ⟨_, rfl⟩
        obtain ⟨R2, g2⟩ : ∃ S, R1 ++ ⟨#[93, 93, 62, 60, 47, 114, 62]⟩ = S := ⟨_, rfl⟩
        have f1 : R1 = ⟨([60, 114, 62, 60, 33, 91, 67, 68, 65, 84, 65, 91] ++ s).toArray⟩ := by rw [← g1]; exact app2 [60, 114, 62, 60, 33, 91, 67, 68, 65, 84, 65, 91] s
        have f2 : R2 = ⟨(cdO s).toArray⟩ := by rw [← g2, f1]; exact app2 ([60, 114, 62, 60, 33, 91, 67, 68, 65, 84, 65, 91] ++ s) [93, 93, 62, 60, 47, 114, 62]
        have y1 : R1.size = 12 + s.length := by rw [f1, str_size]; simp; omega
        have q5 : ¬ 9223372036854775807 < 12 + s.length := by omega
        have q6 : ¬ 9223372036854775807 < 12 + s.length + 7 := by omega
        rw [← f2] at rd2
        have hss := str_size s
        have hcmp := tx_end s
        generalize putL s = T at *
        simp only [List.length_cons, List.length_nil, Nat.zero_add] at rd1 rd2
        clear e1 e2 e3 e4 f1 f2 hs hs0
        go_enter Tryz.func7, Tryz.ntmps7
        go_wp2_with fail
        refine (xmlBegun_any w hM.out).mono ?_
        rintro e w1 ⟨rfl, hk1⟩
        have HK1 := hide hk1
        clear hk1
        go_wp2_with fail
        refine (escBegun_any w1).mono ?_
        rintro e w2 ⟨rfl, hk2⟩
        have HK2 := hide (HK1.out.trans hk2)
        clear hk2
        go_wp2_with fail
        refine (hpu.out w2).mono ?_
        rintro e w3 ⟨rfl, hk3⟩
        have HK3 := hide (HK2.out.trans hk3)
        clear hk3
        go_upto_region 6 with fail
        go_wp2_with fail
        refine (rd1.out w3 HK3.out).mono ?_
        rintro e w4 ⟨⟨oa, ca, ok, ck, rfl, hA, hK⟩, hk4⟩
        obtain ⟨W, hW⟩ : ∃ W, w4.alloc (.cells #[.string ⟨#[114]⟩, .slice oa 1 ca, .string ⟨#[]⟩, .slice ok 1 ck] 45) = W := ⟨_, rfl⟩
        have hkW : Keeps [] w4 W := by rw [← hW]; exact (Keeps.refl [] w4).alloc _
        have hbW := (blk_new rfl hW).1
        have HKW := hide ((HK3.out.trans hk4).trans hkW)
        have HKw := hide (HK3.out.trans hk4)
        obtain ⟨ga, xa, rfl, hca⟩ := one_attr hA
        obtain ⟨gk, xk, rfl, hck, _⟩ := one_kid hK
        have a1 := cell_keeps hkW hca
        have k1 := cell_keeps hkW hck
        have HBW := hide hbW
        have b0 : W.cell? ⟨w4.heap.size, 0, none⟩ = some (.string ⟨#[114]⟩) := cell_blk hbW 0
        have b1 : W.cell? ⟨w4.heap.size, 1, none⟩ = some (.slice (some ⟨ga, xa, none⟩) 1 ca) := cell_blk hbW 1
        have b2 : W.cell? ⟨w4.heap.size, 2, none⟩ = some (.string ⟨#[]⟩) := cell_blk hbW 2
        have b3 : W.cell? ⟨w4.heap.size, 3, none⟩ = some (.slice (some ⟨gk, xk, none⟩) 1 ck) := cell_blk hbW 3
        have HWW := hide hW
        clear hk4 hkW hbW hW hA hK hca hck
        go_upto_region 7 with fail
        rw [HWW.out]
        go_upto_region 9 with fail
        have HSZ := hide (blk_new (w := w4) rfl HWW.out).2
        clear a1 k1 b0 b1 b2 b3 rd1 hpu h1 h2 h3' h4 z1 z2 z3 q1 q2 q3 q4 wa wb hd hT hTl hsT hll HK1 HK2
        go_wp2_with fail
        go_loopw [6] (fun i wr => ∃ k : Nat, k ≤ s.length ∧ i = .int .i64 k ∧ wr = W ∧ Hid (∀ j, j < k → (s.drop j).take 3 ≠ [93, 93, 62])) (fun i _ => s.length - (intOf i).toNat)
        case atStart => exact ⟨0, Nat.zero_le _, rfl, rfl, hide (fun j hj => absurd hj (Nat.not_lt_zero _))⟩
        case round =>
          obtain ⟨k, hk, rfl, rfl, hno⟩ := hrel
          by_cases hlt : k + 2 < s.length
          · by_cases hx : (s.drop k).take 3 = [93, 93, 62]
            · have hcx : ((s.drop k).take 3 == [93, 93, 62]) = true := by rw [hx]; rfl
              clear hx
              go_wp2_with fail
              go_ret
              exact ⟨rfl, HKW.out⟩
            · have hcx : ((s.drop k).take 3 == [93, 93, 62]) = false := by simpa using hx
              have hno' := hide (fun j (hj : j < k + 1) => show (s.drop j).take 3 ≠ [93, 93, 62] from by
                rcases Nat.lt_succ_iff_lt_or_eq.1 hj with h | rfl
                · exact hno.out j h
                · exact hx)
              clear hx hno
              go_wp2_with fail
              go_roundw
              case rel => exact ⟨k + 1, by omega, by go_num, trivial, hno'⟩
              case measure => simp [intOf]; omega
          · have rd := rd2.out (fun j hj => hno.out j (by omega))
            have RD := hide rd
            clear rd rd2 hno hcmp
            go_wp2_with fail
            refine (RD.out _ HKW.out).mono ?_
            rintro e w5 ⟨⟨oa5, ca5, ok5, ck5, rfl, hA5, hK5⟩, hk5⟩
            obtain ⟨gk5, xk5, rfl, hck5, hB5⟩ := one_kid hK5
            have hb5 := (hk5.block _ (lt_of_block HBW.out) List.not_mem_nil).trans HBW.out
            have HB5 := hide hb5
            have HK5 := hide (HKW.out.trans hk5)
            have z0 := cell_blk hb5 0
            have z1 := cell_blk hb5 1
            have z2 := cell_blk hb5 2
            have z3 := cell_blk hb5 3
            have g0 := free_blk hb5 0
            have g1 := free_blk hb5 1
            have g2 := free_blk hb5 2
            have g3 := free_blk hb5 3
            simp at z0 z1 z2 z3
            clear hb5 hA5 hK5 hk5
            go_upto_region 15 with fail
            have hks := set4_keeps w5 w4.heap.size (.string ⟨#[114]⟩) (.slice oa5 0 ca5) (.string ⟨#[]⟩) (.slice (some ⟨gk5, xk5, none⟩) 1 ck5)
            have hbs := set4_blk (.string ⟨#[114]⟩) (.slice oa5 0 ca5) (.string ⟨#[]⟩) (.slice (some ⟨gk5, xk5, none⟩) 1 ck5) HB5.out
            have hks2 := cell_keepsS hks (show gk5 ∉ [w4.heap.size] from by have := HSZ.out; simp; omega) hck5
            obtain ⟨W6, h6⟩ : ∃ W6, ((((w5.setCell ⟨w4.heap.size, 0, none⟩ (.string ⟨#[114]⟩)).setCell ⟨w4.heap.size, 1, none⟩ (.slice oa5 0 ca5)).setCell ⟨w4.heap.size, 2, none⟩ (.string ⟨#[]⟩)).setCell ⟨w4.heap.size, 3, none⟩ (.slice (some ⟨gk5, xk5, none⟩) 1 ck5)) = W6 := ⟨_, rfl⟩
            rw [h6] at hks hbs hks2 ⊢
            have x3 : W6.cell? ⟨w4.heap.size, 3, none⟩ = some (.slice (some ⟨gk5, xk5, none⟩) 1 ck5) := cell_blk hbs 3
            have HKS := hide (keeps_on HK5.out hks (fun g hg hlt => by have := HKw.out.size; simp at hg; omega))
            clear h6 hks hbs hck5 z0 z1 z2 z3 g0 g1 g2 g3
            go_wp2_with fail
            go_ret
            exact ⟨rfl, HKS.out⟩
theorem xmlText_any (s : ByteArray) (w : World) (hs : s.size ≤ maxLen) (hM : HasMax w) : Calls Tryz.prog 7 #[.string s] w fun e w' => e = .returned (.bool true) ∧ Keeps [] w w' :=
  xmlText_law s.data.toList w (by rw [len_size]; exact hs) hM
end Go.Proofs.YtlcljanibjdejaaGreat
namespace Go.Proofs.YtlcljanibjdejaaGreat
open Go.RowKit Go.Maps
open Go.ChangeShapes Go.WideShapes Go.ChangeAt
open Go.ChangeMaps (open_string shut_string)
theorem knob_own : ownKnob Tryz.prog.godebug = none := by kernel_rfl
theorem laid_out : laidOutB Tryz.prog = true := by kernel_rfl
theorem prog_maps : mapsRowed Tryz.prog = true := by kernel_rfl
theorem prog_plain : (true == Tryz.prog.plainKeys) = true := by kernel_rfl
theorem prog_heard : Tryz.prog.stopsHeard = true := by kernel_rfl
theorem prog_enter : Tryz.prog.mayEnter = true := by kernel_rfl
theorem prog_lifted : (false == Tryz.prog.liftsFinal) = true := by kernel_rfl
theorem prog_make : (Tryz.prog.make == some .cut) = true := by kernel_rfl
theorem max_shaped (W : World) (h : W.ShapedOpen Tryz.prog) : HasMax W := Tryz.laysM143.s1_3 W h
end Go.Proofs.YtlcljanibjdejaaGreat
namespace Go.Proofs.YtlcljanibjdejaaGreat
open Go.ChangeShapes Go.WideShapes Go.ChangeAt Go.RowKit
open Go.ChangeMaps (open_string shut_string)
set_option maxRecDepth 100000 in
theorem xmlText_lifted (os : Os) (started : os.Started) (H : Type) (enc : TypeId × Value → H) :
    ReturnsInHanded {} Tryz.checked os 7 .any (Rows.xmlTextSpec.pre6 enc Tryz.prog Tryz.f7 Rows.xmlTextRow.domain false) (Rows.xmlTextSpec.post enc Tryz.prog Tryz.f7 false true false false) := by
  refine returnsInHanded_of_change_shaped (C := Tryz.checked) knob_own started (by kernel_rfl) Tryz.func7
    (ChangeSpec.witness6 (enc := enc) (C := Tryz.checked) false ⟨#[], #[.string ByteArray.empty], []⟩ 8 (by kernel_rfl) (by kernel_rfl) (by kernel_rfl) (by kernel_rfl)) ?_
  intro W base args ds gs before hval0 hW hcnd hsz0 hsh _
  have hM : HasMax W := max_shaped W hsh
  have hval : ∀ (j : Nat) t v, Tryz.f7.params[j]? = some t → args[j]? = some v → Value.okWide Tryz.prog W .any base t v := hval0
  have hW' := hW
  obtain ⟨p, q, hA0, hV, rfl, hfz, hnd⟩ := hW
  have hA : DataW.TrodAll enc Tryz.prog W 0 (fun _ => true) true Tryz.f7.params.toList args.toList ds p := hA0
  rw [Tryz.params7] at hA hval
  obtain ⟨v0, d0, rfl, rfl, h0⟩ := trodAll_one hA
  obtain ⟨rfl, rfl⟩ := trodVars_none hV
  obtain ⟨a0, rfl, rfl, rfl, w0⟩ := open_string Tryz.underlying9 (hval 0 9 v0 rfl rfl) h0
  clear hA0 hval0
  simp only [List.append_nil] at hW'
  refine (xmlText_any a0 W w0 hM).mono fun e W' ⟨he, hg⟩ => ?_
  subst he
  refine ⟨_, rfl, _, _, _, [], [], [], hW', trodAll_cons_mk (shut_bool Tryz.underlying4 _) trodAll_mk0, (trodAll_cons_mk (shut_string Tryz.underlying9 w0) trodAll_mk0), rfl, hg.nil_below.frame _, fun h => by cases h⟩
set_option maxHeartbeats 8000000 in
theorem xmlText_closed : joinedFacts Tryz.prog 7 Tryz.f7 Rows.xmlTextSpec Rows.xmlTextRow = true := by
  simp only [joinedFacts, Bool.and_eq_true]
  refine ⟨⟨⟨⟨⟨⟨⟨⟨⟨⟨⟨⟨⟨⟨⟨⟨⟨⟨⟨⟨⟨⟨⟨⟨⟨⟨⟨⟨⟨⟨⟨?_, laid_out⟩, prog_maps⟩, ?_⟩, ?_⟩, ?_⟩, ?_⟩, ?_⟩, ?_⟩, ?_⟩, ?_⟩, ?_⟩, ?_⟩, ?_⟩, ?_⟩, ?_⟩, ?_⟩, ?_⟩, ?_⟩, ?_⟩, ?_⟩, ?_⟩, prog_plain⟩, ?_⟩, prog_heard⟩, prog_enter⟩, prog_lifted⟩, prog_make⟩, ?_⟩, ?_⟩, ?_⟩, ?_⟩
  all_goals as_aux_lemma => kernel_rfl
theorem xmlText_named : Tryz.prog.funcNamed Rows.xmlTextRow.func = some 7 := by kernel_rfl
theorem xmlText_holds : Rows.XmlTextSaid :=
  OpenClaim.holds_of_wide 7 Tryz.f7 rfl rfl rfl rfl rfl rfl rfl ⟨rfl, rfl, rfl, rfl, rfl⟩ rfl rfl rfl rfl rfl xmlText_named Tryz.func7 xmlText_closed
    (of_decide_eq_true (by as_aux_lemma => kernel_rfl)) (by unfold Func.isWrapper; first | (rw [if_pos (by decide +kernel)]; kernel_rfl) | (rw [if_neg (by decide +kernel)]; exact ⟨rfl, rfl⟩))
    (fun os started H enc _ => xmlText_lifted os started H enc)
#print axioms xmlText_holds
end Go.Proofs.YtlcljanibjdejaaGreat

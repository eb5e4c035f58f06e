/- Nodes that came in: what is read of them lies there ('Ns'), and how much it is. TreeBack's walk: what is built is right, and built of its own tokens again it is the same. TreeBack holds, for arguments of bulk up to 1048576: it returns true, and each argument reads behind the call as it read before. -/
import Derived.Test.YtngojdajamgababGreatReadAll
import Derived.Test.YtngojdajamgababGreatTreeSM
import Derived.ProofKit
import Derived.OpenShut
import Derived.ShutString
import Derived.JoinedCond
import Derived.HandedShaped
import Derived.Carry
namespace Go.Proofs.YtngojdajamgababGreat
open Go.RowKit Go.Maps Go.Deep

/-- How much nodes are. -/
def bulkNs : List Nd → Nat
  | [] => 0
  | .mk n a t k :: r => n.length + t.length + bulkP a + bulkNs k + 3 + bulkNs r
theorem bulkNs_cons (n : Nd) (r : List Nd) : bulkNs (n :: r) = n.name.length + n.text.length + bulkP n.attrs + bulkNs n.kids + 3 + bulkNs r := by
  obtain ⟨n, a, t, k⟩ := n
  rw [bulkNs]
  rfl
theorem bulkNs_size : (ns : List Nd) → sizeNs ns ≤ bulkNs ns
  | [] => by simp [sizeNs, bulkNs]
  | .mk n a t k :: r => by
    have h1 := bulkNs_size k
    have h2 := bulkNs_size r
    rw [sizeNs, bulkNs]
    omega
theorem bulkNs_fits : (ns : List Nd) → bulkNs ns ≤ 1100000 → FitsNs ns ∧ FewNs ns
  | [], _ => by simp [FitsNs, FewNs]
  | .mk n a t k :: r, h => by
    rw [bulkNs] at h
    have h1 := bulkNs_fits k (by omega)
    have h2 := bulkNs_fits r (by omega)
    have h3 := bulkP_len a
    rw [FitsNs, FewNs]
    exact ⟨⟨⟨by unfold maxLen; omega, fun p hp => by have := h3.2 p hp; unfold maxLen; omega⟩, h1.1, h2.1⟩, by omega, h1.2, h2.2⟩

theorem cell_lt {w : World} {a : Addr} {u : Value} (h : w.cell? a = some u) : a.block < w.heap.size := by
  rcases Nat.lt_or_ge a.block w.heap.size with h' | h'
  · exact h'
  · unfold World.cell? at h
    rw [Array.getElem?_eq_none h'] at h
    simp at h

theorem liesP_of {w : World} {v : Value} {n z : Nat} {xs : List Value} (h : Lies w v n z xs) (hz : 0 < z) : LiesP w (fun _ => True) v n z xs := by
  refine ⟨h.1, ?_⟩
  rcases h.2 with ⟨e, h0⟩ | ⟨g, o, c, e, h1, h2, h3⟩ | ⟨h0, a, c, e, h1⟩
  · exact .inl ⟨h0, none, 0, e, by simp [maxLen]⟩
  · by_cases h0 : n = 0
    · subst h0
      exact .inl ⟨rfl, _, c, e, h2⟩
    · have hpos : 0 < xs.length := by rw [h.1]; exact Nat.mul_pos (by omega) hz
      exact .inr ⟨g, o, c, e, h1, h2, cell_lt (h3 0 _ (List.getElem?_eq_getElem hpos)), trivial, h3⟩
  · exact .inl ⟨h0, a, c, e, h1⟩

section
variable {H : Type} {enc : TypeId × Value → H} {w : World} {base : Nat} {spare : Nat → Bool} {held : Bool}

set_option maxRecDepth 8000 in
theorem nodes_down : ∀ (B n : Nat) (v : Value) (x : DataW H × List MemPlace), Rows.uptoBulk x.1 ≤ B → DataW.trod enc Tryz.prog w base spare held n 23 [v] = some x → ∃ ns : List Nd, Ns w (fun _ => True) v ns ∧ bulkNs ns ≤ Rows.uptoBulk x.1 := by
  intro B
  induction B with
  | zero =>
    intro n v x hB h
    rcases open_slice Tryz.underlying23 h with ⟨hv, hx⟩ | ⟨a, len, cap, m, n', D, Pl, hv, _, hl, hm, hmm, hx, _⟩
    · rw [hx] at hB; simp [Rows.uptoBulk] at hB
    · rw [hx] at hB; simp [Rows.uptoBulk] at hB
  | succ B ihB =>
  intro n v x hB h
  rcases open_slice Tryz.underlying23 h with ⟨hv, _⟩ | ⟨a, len, cap, m, n', D, Pl, hv, _, hl, hm, hmm, rfl, hx⟩
  · simp at hv
    subst hv
    exact ⟨[], Ns.nil _ _ none 0 (by simp [maxLen]), by simp [bulkNs]⟩
  · simp at hv
    subst hv
    have hlm : len ≤ m := by rw [hmm]; split <;> omega
    have ce : Tryz.prog.cellsOf 61 = 4 := by kernel_rfl
    have c9 : Tryz.prog.cellsOf 9 = 1 := by kernel_rfl
    have c46 : Tryz.prog.cellsOf 46 = 1 := by kernel_rfl
    have c23 : Tryz.prog.cellsOf 23 = 1 := by kernel_rfl
    have hBD : ∀ i, i < len → Rows.uptoBulk (D i) ≤ B := by
      intro i hi
      simp only [Rows.uptoBulk] at hB
      have hs : ∀ (r : List Nat), i ∈ r → Rows.uptoBulk (D i) ≤ Rows.uptoBulkAll (r.map D) := fun r => by
        induction r with
        | nil => simp
        | cons j r ih =>
          intro hr
          simp only [List.map_cons, Rows.uptoBulkAll]
          rcases List.mem_cons.1 hr with rfl | hr
          · omega
          · have := ih hr; omega
      have := hs (List.range len) (List.mem_range.2 hi)
      omega
    have each : ∀ i, i < len → ∃ q : Pn, (∀ r, r < 4 → w.cell? (a.add (i * 4 + r)) = (pnCells q)[r]?) ∧ Lies w q.av q.nd.attrs.length 2 (pairCells q.nd.attrs) ∧ Ns w (fun _ => True) q.kv q.nd.kids ∧ bulkNs [q.nd] ≤ Rows.uptoBulk (D i) := by
      intro i hi
      have hBi := hBD i hi
      obtain ⟨cs', h1, h2⟩ := hx i (by omega)
      rw [ce] at h1
      obtain ⟨_, hlen, hcell⟩ := World.cells?_some h1
      obtain ⟨xs, k, hk, hxy, _, hxl, hf⟩ := DataW.trod_struct Tryz.underlying61 h2
      have hxl4 : xs.length = 4 := hxl
      clear hxl
      obtain ⟨y0, y1, y2, y3, rfl⟩ := four hxl4
      obtain ⟨v0, v1, v2, v3, rfl⟩ := four hlen
      have g0 := hf 0 _ rfl
      have g1 := hf 1 _ rfl
      have g2 := hf 2 _ rfl
      have g3 := hf 3 _ rfl
      simp [c9, c46, c23] at g0 g1 g2 g3
      obtain ⟨s0, e0, f0, _⟩ := DataW.trod_string Tryz.underlying9 g0
      obtain ⟨s2, e2, f2, _⟩ := DataW.trod_string Tryz.underlying9 g2
      obtain ⟨la, hla, hbl⟩ := attrs_down g1
      simp only [Prod.mk.injEq] at hxy
      rw [hxy.1] at hBi ⊢
      simp at e0 e2
      subst e0 e2 f0 f2
      simp only [List.map_cons, List.map_nil, Rows.uptoBulk, Rows.uptoBulkAll] at hBi ⊢
      obtain ⟨ks, hks, hbk⟩ := ihB _ _ _ (by omega) g3
      refine ⟨⟨.mk s0.data.toList la s2.data.toList ks, v1, v3⟩, ?_, hla, hks, ?_⟩
      · intro r hr
        have hc := hcell r hr
        rw [add_add] at hc
        rw [hc]
        match r, hr with
        | 0, _ => simp [pnCells, Nd.name]
        | 1, _ => rfl
        | 2, _ => simp [pnCells, Nd.text]
        | 3, _ => rfl
      · rw [bulkNs, bulkNs]
        simp
        omega
    haveI : Inhabited Pn := ⟨⟨.mk [] [] [] [], .nilIface, .nilIface⟩⟩
    obtain ⟨q, hq⟩ := choose_lt each
    refine ⟨((List.range len).map q).map Pn.nd, .mk _ ((List.range len).map q) _ rfl (liesP_of ?_ (by decide)) (fun p hp => ?_) (fun p hp => ?_), ?_⟩
    · rw [List.length_map, List.length_range]
      refine lies_of (by decide) hl hm (by rw [pnsCells_len]; simp) fun j u hj => ?_
      have hj2 : j < len * 4 := by
        have := (List.getElem?_eq_some_iff.1 hj).1
        rw [pnsCells_len] at this
        simpa using this
      have hi : j / 4 < ((List.range len).map q).length := by simp; omega
      have hi' : j / 4 < len := by omega
      have hel : ((List.range len).map q)[j / 4] = q (j / 4) := by simp
      have h8 := pn_at ((List.range len).map q) (j / 4) (j % 4) hi (by omega)
      rw [show j / 4 * 4 + j % 4 = j from by omega, hj, hel] at h8
      have h9 := (hq (j / 4) hi').1 (j % 4) (by omega)
      rw [show j / 4 * 4 + j % 4 = j from by omega] at h9
      rw [h9, ← h8]
    · obtain ⟨i, hi, rfl⟩ := List.mem_map.1 hp
      exact liesP_of (hq i (List.mem_range.1 hi)).2.1 (by decide)
    · obtain ⟨i, hi, rfl⟩ := List.mem_map.1 hp
      exact (hq i (List.mem_range.1 hi)).2.2.1
    · simp only [Rows.uptoBulk]
      have hs : ∀ (r : List Nat), (∀ i ∈ r, i < len) → bulkNs ((r.map q).map Pn.nd) ≤ Rows.uptoBulkAll (r.map D) := fun r => by
        induction r with
        | nil => simp [bulkNs]
        | cons i r ih =>
          intro hr
          have h1 := ih (fun k hk => hr k (by simp [hk]))
          have h2 := (hq i (hr i (by simp))).2.2.2
          rw [bulkNs_cons, bulkNs] at h2
          simp only [List.map_cons, Rows.uptoBulkAll]
          rw [bulkNs_cons]
          omega
      have := hs (List.range len) (fun i hi => List.mem_range.1 hi)
      omega
end
end Go.Proofs.YtngojdajamgababGreat

namespace Go.Proofs.YtngojdajamgababGreat
open Go.RowKit Go.Maps

/-! ### how much is built, and how much its tokens are -/
theorem bulkNs_append (a b : List Nd) : bulkNs (a ++ b) = bulkNs a + bulkNs b := by
  induction a with
  | nil => simp [bulkNs]
  | cons n a ih => rw [List.cons_append, bulkNs_cons, bulkNs_cons, ih]; omega
def opBulk (o : Op) : Nat := o.name.length + bulkP o.attrs + bulkNs o.kids + 3
def St.bulk (s : St) : Nat := (s.all.map opBulk).sum + if s.text = [] then 0 else s.text.length + 3
theorem bulkP_nil : bulkP [] = 0 := rfl
theorem bulk_endText (s : St) : s.endText.bulk = s.bulk := by
  unfold St.endText
  split
  · rfl
  · next h => simp [St.bulk, St.all, opBulk, Op.put, bulkNs_append, textN, bulkNs, bulkP_nil, h]; omega
theorem bulk_pop (s : St) : s.pop.bulk = s.bulk := by
  rw [← bulk_endText s]
  unfold St.pop
  split
  · rfl
  · next o up h =>
    have h1 := endText_up s
    have h2 := endText_text s
    rw [h] at h1
    simp [St.bulk, St.all, opBulk, Op.put, bulkNs_append, h1, h2, Op.nd, bulkNs]
    omega
theorem bulk_close (k : Nat) (s : St) : (s.close k).bulk = s.bulk := by
  induction k generalizing s with
  | zero => rfl
  | succ k ih => rw [St.close, ih, bulk_pop]
theorem bulk_step (s : St) (t : Tok) : (s.step t).bulk ≤ s.bulk + bulkT t := by
  unfold St.step bulkT
  split
  · simp only [St.bulk, St.all]
    split
    · next h => simp at h; simp [h]
    · split
      · next h h2 => simp [h2]; omega
      · simp; omega
  · split
    · unfold St.openTag St.closeFrom
      split
      · rw [bulk_close]; omega
      · rw [← bulk_close (s.up.length + 1 - closedL s.names t.name) s]
        generalize s.close (s.up.length + 1 - closedL s.names t.name) = u
        rw [← bulk_endText u]
        unfold St.openIn
        split
        · simp [St.bulk, St.all, opBulk, St.put, Op.put, bulkNs_append, bulkNs, endText_text]
          omega
        · simp [St.bulk, St.all, opBulk, endText_up, endText_text, bulkNs]
          omega
    · unfold St.closeTag St.closeFrom
      rw [bulk_close]
      omega
theorem bulk_fold (ts : List Tok) (s : St) : (ts.foldl St.step s).bulk ≤ s.bulk + bulkL ts := by
  induction ts generalizing s with
  | nil => simp [bulkL]
  | cons t ts ih =>
    rw [List.foldl_cons, show bulkL (t :: ts) = bulkT t + bulkL ts from by simp [bulkL]]
    have := ih (s.step t)
    have := bulk_step s t
    omega
theorem bulk_build (ts : List Tok) : bulkNs (buildL ts) ≤ bulkL ts := by
  have h1 := bulk_fold ts St.start
  have h0 : St.start.bulk = 3 := by simp [St.bulk, St.all, St.start, opBulk, bulkNs, bulkP_nil]
  rw [h0] at h1
  unfold buildL St.closeFrom
  rw [Nat.add_sub_cancel]
  have hu := close_up (ts.foldl St.step St.start).up.length (ts.foldl St.step St.start)
  rw [List.drop_length] at hu
  rw [← bulk_close (ts.foldl St.step St.start).up.length] at h1
  generalize (ts.foldl St.step St.start).close (ts.foldl St.step St.start).up.length = u at *
  rw [← bulk_endText] at h1
  have h2 := endText_up u
  rw [hu] at h2
  simp [St.bulk, St.all, opBulk, h2, endText_text] at h1
  omega
theorem flat_text : (ns : List Nd) → ((flatL ns).flatMap Tok.text).length ≤ bulkNs ns
  | [] => by simp [flatL, bulkNs]
  | .mk n a t k :: r => by
    have h1 := flat_text k
    have h2 := flat_text r
    rw [flatL, bulkNs]
    split
    · simp at h2 ⊢; omega
    · split
      · simp at h1 h2 ⊢; omega
      · simp at h1 h2 ⊢; omega
theorem flat_bulk : (ns : List Nd) → ∀ t ∈ flatL ns, t.name.length + bulkP t.attrs ≤ bulkNs ns
  | [], t, h => by simp [flatL] at h
  | .mk n a tx k :: r, t, h => by
    rw [flatL, List.mem_append] at h
    rw [bulkNs]
    rcases h with h | h
    · split at h
      · simp at h; subst h; simp [bulkP_nil]
      · rw [List.mem_cons, List.mem_append] at h
        rcases h with rfl | h | h
        · simp only; omega
        · have := flat_bulk k t h; omega
        · split at h
          · simp at h
          · simp at h; subst h; simp only [bulkP_nil]; omega
    · have := flat_bulk r t h; omega
theorem flat_fit (ns : List Nd) (h : bulkNs ns ≤ 1100000) : ∀ t ∈ flatL ns, FitsT t ∧ t.attrs.length ≤ 2000000 := by
  intro t ht
  have h1 := flat_bulk ns t ht
  have h2 := bulkP_len t.attrs
  exact ⟨⟨by unfold maxLen; omega, fun p hp => by have := h2.2 p hp; unfold maxLen; omega⟩, by omega⟩

set_option maxRecDepth 8000 in
set_option maxHeartbeats 8000000 in
theorem back_any (w : World) (v1 v2 : Value) (ts : List Tok) (ns : List Nd) (hv : Toks w v1 ts) (hb : bulkL ts ≤ 1100000) (hN : Ns w (fun _ => True) v2 ns) (hbn : bulkNs ns ≤ 1100000) (hM : HasMax w) :
    Calls Tryz.prog 4 #[v1, v2] w fun e w' => e = .returned (.bool true) ∧ Keeps [] w w' := by
  have hfit := bulk_fits hb
  have htx := bulkL_text ts
  have hbb := bulk_build ts
  have hnf := bulkNs_fits ns hbn
  have hns := bulkNs_size ns
  obtain ⟨o1, n1, c1, hv1⟩ : ∃ o n c, v1 = .slice o n c := by
    obtain ⟨l, _, hl, _⟩ := hv
    obtain ⟨o, c, h, _⟩ := hl.form
    exact ⟨o, _, c, h⟩
  subst hv1
  obtain ⟨o2, c2, hv2⟩ := hN.form
  subst hv2
  have hMk := hide (fun (W : World) (hk : Keeps [] w W) => hM.keeps hk List.not_mem_nil)
  -- the second half
  have flat2 := hide (fun (W : World) (hk : Keeps [] w W) => treeFlat_any W _ _ ns (hN.keeps0 hk) (by omega) hnf.1 hnf.2)
  have build2 := hide (fun (W : World) (hk : Keeps [] w W) (u : Value) (hu : Toks W u (flatL ns)) => build_any W u (flatL ns) hu (fun t ht => (flat_fit ns hbn t ht).1) (hMk.out W hk).pos (fun t ht => (flat_fit ns hbn t ht).2) (by have := flat_text ns; omega))
  have same2 := hide (fun (W : World) (hk : Keeps [] w W) => hN.keeps0 hk)
  have right2 := hide (show chkTree ns = 0 → (flatL ns).length ≤ 3000 → chkL (flatL ns) = 0 ∧ buildL (flatL ns) = ns from fun h1 h2 => ⟨chk_flat ns ((chkTree_ok ns).1 h1).2 h2, build_flat ns ((chkTree_ok ns).1 h1).2⟩)
  have second : Hid (∀ W : World, Keeps [] w W → (chkTree ns ≠ 0 ∧ Calls Tryz.prog 7 #[.slice o2 ns.length c2] W (fun e w' => ∃ a c, e = .returned (.tuple #[.slice a 0 c, .int .i64 (chkTree ns)]) ∧ Keeps [] W w')) ∨
      (3000 < (flatL ns).length ∧ Calls Tryz.prog 7 #[.slice o2 ns.length c2] W (fun e w' => ∃ a c, e = .returned (.tuple #[.slice a (flatL ns).length c, .int .i64 0]) ∧ Keeps [] W w')) ∨
      ((flatL ns).length ≤ 3000 ∧ Calls Tryz.prog 7 #[.slice o2 ns.length c2] W (fun e w' => ∃ a c, e = .returned (.tuple #[.slice a (flatL ns).length c, .int .i64 0]) ∧ Keeps [] W w' ∧ Calls Tryz.prog 6 #[.slice a (flatL ns).length c] w' fun e w2 => ∃ o3 c3, e = .returned (.tuple #[.slice o3 ns.length c3, .int .i64 0]) ∧ Keeps [] w' w2 ∧ Calls Tryz.prog 18 #[.slice o3 ns.length c3, .slice o2 ns.length c2] w2 fun e w3 => e = .returned (.bool true) ∧ Keeps [] w2 w3))) := by
    intro W hk
    have hf := flat2.out W hk
    by_cases hc : chkTree ns = 0
    · by_cases hl : (flatL ns).length ≤ 3000
      · right; right
        obtain ⟨r1, r2⟩ := right2.out hc hl
        refine ⟨hl, hf.mono ?_⟩
        rintro e w' ⟨v', rfl, ⟨n, c, a, rfl, rfl⟩, ht, hk'⟩
        rw [hc, if_pos rfl] at ht ⊢
        refine ⟨a, c, rfl, hk', ?_⟩
        have hb := build2.out w' (hk.trans hk') _ ht
        rw [r1, if_pos rfl, r2] at hb
        refine hb.mono ?_
        rintro e w2 ⟨v3, rfl, hN3, hk3⟩
        obtain ⟨o3, c3, rfl⟩ := hN3.form
        refine ⟨o3, c3, rfl, hk3, ?_⟩
        exact (sameNodes_eq _ _ w2 _ ns hN3 _ w2 (Keeps.refl _ _) (same2.out w2 ((hk.trans hk').trans hk3))).mono fun e w4 ⟨h1, n, h2⟩ => ⟨h1, h2 ▸ (Keeps.refl _ _).drewN n⟩
      · right; left
        refine ⟨by omega, hf.mono ?_⟩
        rintro e w' ⟨v', rfl, ⟨n, c, a, rfl, rfl⟩, ht, hk'⟩
        rw [hc, if_pos rfl]
        exact ⟨a, c, rfl, hk'⟩
    · left
      refine ⟨hc, hf.mono ?_⟩
      rintro e w' ⟨v', rfl, ⟨n, c, a, rfl, rfl⟩, ht, hk'⟩
      rw [if_neg hc]
      exact ⟨a, c, rfl, hk'⟩
  clear flat2 build2 same2 right2
  have hz2 : (flatL ns).length ≤ 2 * sizeNs ns := flatL_len ns
  have hz3 : (flatL ns).length ≤ 4000000 := by omega
  clear hz2
  generalize (flatL ns).length = N2 at *
  generalize chkTree ns = E2 at *
  -- the first half
  have HV := hide hv
  have HF := hide hfit
  have HT := hide (show (ts.flatMap Tok.text).length ≤ 2000000 from by omega)
  have hfb : bulkNs (buildL ts) ≤ 1100000 := by omega
  have build1 := hide (fun (W : World) (hk : Keeps [] w W) => build_any W _ ts (HV.out.keeps hk) (fun t ht => (HF.out t ht).1) (hMk.out W hk).pos (fun t ht => (HF.out t ht).2) HT.out)
  clear hfit htx hbb hnf hns hv hN hbn HF HV HT hb
  by_cases hc : chkL ts = 0
  · have fB := bulkNs_fits _ hfb
    have sB := bulkNs_size (buildL ts)
    have cB := chk_built ts hc
    have gB := flat_fit _ hfb
    have tB := flat_text (buildL ts)
    have rB := (chkTree_ok _).1 cB
    have lB := flatL_len (buildL ts)
    have kB : (flatL (buildL ts)).length ≤ 3000 → chkL (flatL (buildL ts)) = 0 := fun h => chk_flat _ rB.2 h
    have nB : ¬ (flatL (buildL ts)).length ≤ 3000 → chkL (flatL (buildL ts)) = 2 := fun h => by unfold chkL; rw [if_pos (by omega)]
    have bB := build_flat _ rB.2
    have b1 : Hid (∀ W : World, Keeps [] w W → Calls Tryz.prog 6 #[.slice o1 n1 c1] W (fun e w' => ∃ v', e = .returned (.tuple #[v', .int .i64 0]) ∧ Ns w' (fun g => W.heap.size ≤ g) v' (buildL ts) ∧ Keeps [] W w')) := by
      intro W hk
      have := build1.out W hk
      rw [hc, if_pos rfl] at this
      exact this
    clear build1 hc rB
    generalize buildL ts = B at *
    have f1 : Hid (∀ (W : World) P v, Ns W P v B → Calls Tryz.prog 7 #[v] W fun e w' => ∃ a c, e = .returned (.tuple #[.slice a (flatL B).length c, .int .i64 0]) ∧ Toks w' (.slice a (flatL B).length c) (flatL B) ∧ Keeps [] W w') := by
      intro W P v hv
      have := treeFlat_any W P v B hv (by omega) fB.1 fB.2
      rw [cB, if_pos rfl, if_pos rfl] at this
      refine this.mono ?_
      rintro e w' ⟨v', rfl, ⟨n, c, a, rfl, rfl⟩, ht, hk'⟩
      exact ⟨a, c, rfl, ht, hk'⟩
    have k1 : Hid (∀ (W : World) P v, Ns W P v B → Calls Tryz.prog 14 #[v] W fun e w' => e = .returned (.int .i64 0) ∧ Keeps [] W w') := by
      intro W P v hv
      have := treeCheck_any W P v B hv (by omega) fB.1
      rw [cB] at this
      exact this
    have t1 := hide (fun (W : World) u (hu : Toks W u (flatL B)) => check_any W u (flatL B) hu (fun t ht => (gB t ht).1))
    have b2 := hide (fun (W : World) (hk : Keeps [] w W) u (hu : Toks W u (flatL B)) => build_any W u (flatL B) hu (fun t ht => (gB t ht).1) (hMk.out W hk).pos (fun t ht => (gB t ht).2) (by omega))
    have s1 := hide (fun (W0 W : World) P Q (va vb : Value) (hk : Keeps [] W0 W) (ha : Ns W0 P va B) (hb : Ns W Q vb B) => sameNodes_eq P Q W0 va B ha vb W hk hb)
    have lB2 : (flatL B).length ≤ 4000000 := by omega
    clear fB sB cB gB tB lB hfb
    rcases Nat.lt_or_ge 3000 (flatL B).length with hl | hl
    · have hch := nB (by omega)
      have t1 : Hid (∀ (W : World) u, Toks W u (flatL B) → Calls Tryz.prog 17 #[u] W fun e w' => e = .returned (.int .i64 2) ∧ Keeps [] W w') := fun W u hu => by have := t1.out W u hu; rw [hch] at this; exact this
      have b2 : Hid (∀ (W : World), Keeps [] w W → ∀ u, Toks W u (flatL B) → Calls Tryz.prog 6 #[u] W fun e w' => ∃ v', e = .returned (.tuple #[v', .int .i64 2]) ∧ Ns w' (fun g => W.heap.size ≤ g) v' [] ∧ Keeps [] W w') := fun W hk u hu => by have := b2.out W hk u hu; rw [hch, if_neg (by decide)] at this; exact this
      clear bB kB nB hch s1
      have d1 : decide (((flatL B).length : Int) ≤ 3000) = false := decide_eq_false (by omega)
      go_enter Tryz.func4, Tryz.ntmps4
      go_wp2_with fail
      refine (treeBegun_any _ hM).mono ?_
      rintro e w1 ⟨rfl, hk1⟩
      go_wp2_with fail
      refine (tokenBegun_any _ (hMk.out w1 hk1)).mono ?_
      rintro e w2 ⟨rfl, hk2⟩
      have hk02 := hk1.trans hk2
      clear hk1 hk2
      go_wp2_with fail
      refine (b1.out w2 hk02).mono ?_
      rintro e w3 ⟨v3, rfl, hN3, hk3⟩
      have hk03 := hk02.trans hk3
      obtain ⟨o3, c3, hv3⟩ := hN3.form
      subst hv3
      have HN3 := hide hN3
      clear hN3 hk3 hk02 b1
      go_wp2_with fail
      refine (f1.out w3 _ _ HN3.out).mono ?_
      rintro e w4 ⟨a4, c4, rfl, ht4, hk4⟩
      have hk04 := hk03.trans hk4
      have HT4 := hide ht4
      have HN4 := hide (HN3.out.keeps0 hk4)
      clear ht4 hk4 f1
      go_wp2_with fail
      refine (k1.out w4 _ _ HN4.out).mono ?_
      rintro e w5 ⟨rfl, hk5⟩
      have hk05 := hk04.trans hk5
      have HT5 := hide (HT4.out.keeps hk5)
      have HN5 := hide (HN4.out.keeps0 hk5)
      clear hk5 k1 HN4
      go_wp2_with fail
      refine (t1.out w5 _ HT5.out).mono ?_
      rintro e w6 ⟨rfl, hk6⟩
      have hk06 := hk05.trans hk6
      have HT6 := hide (HT5.out.keeps hk6)
      have HN6 := hide (HN5.out.keeps0 hk6)
      clear hk6 t1 HN5
      go_wp2_with fail
      refine (b2.out w6 hk06 _ HT6.out).mono ?_
      rintro e w7 ⟨v7, rfl, hN7, hk7⟩
      have hk07 := hk06.trans hk7
      obtain ⟨o7, c7, hv7⟩ := hN7.form
      subst hv7
      have HN7 := hide (HN6.out.keeps0 hk7)
      have HM7 := hide hN7
      clear hN7 b2
      rcases second.out w7 hk07 with ⟨hE, hcl⟩ | ⟨hl2, hcl⟩ | ⟨hl2, hcl⟩
      · have e1 : (E2 != 0) = true := by simpa using hE
        have e2 : (E2 == 0) = false := by simpa using hE
        have HCL := hide hcl
        clear hcl second hE
        go_wp2_with fail
        refine HCL.out.mono ?_
        rintro e x1 ⟨a, c, rfl, hx1⟩
        go_wp2_with fail
        go_ret
        exact ⟨rfl, (hk07).trans hx1⟩
      · have e1 : decide ((3000 : Int) < (N2 : Int)) = true := decide_eq_true (by omega)
        have HCL := hide hcl
        clear hcl second hl2
        go_wp2_with fail
        refine HCL.out.mono ?_
        rintro e x1 ⟨a, c, rfl, hx1⟩
        go_wp2_with fail
        go_ret
        exact ⟨rfl, (hk07).trans hx1⟩
      · have e1 : decide ((3000 : Int) < (N2 : Int)) = false := decide_eq_false (by omega)
        have HCL := hide hcl
        clear hcl second hl2
        go_wp2_with fail
        refine HCL.out.mono ?_
        rintro e x1 ⟨a, c, rfl, hx1, hcl2⟩
        have HC2 := hide hcl2
        clear hcl2 HCL
        go_wp2_with fail
        refine HC2.out.mono ?_
        rintro e x2 ⟨o3, c3, rfl, hx2, hcl3⟩
        have HC3 := hide hcl3
        clear hcl3 HC2
        go_wp2_with fail
        refine HC3.out.mono ?_
        rintro e x3 ⟨rfl, hx3⟩
        go_wp2_with fail
        go_ret
        exact ⟨rfl, (((hk07).trans hx1).trans hx2).trans hx3⟩
    · have hch := kB (by omega)
      have t1 : Hid (∀ (W : World) u, Toks W u (flatL B) → Calls Tryz.prog 17 #[u] W fun e w' => e = .returned (.int .i64 0) ∧ Keeps [] W w') := fun W u hu => by have := t1.out W u hu; rw [hch] at this; exact this
      have b2 : Hid (∀ (W : World), Keeps [] w W → ∀ u, Toks W u (flatL B) → Calls Tryz.prog 6 #[u] W fun e w' => ∃ v', e = .returned (.tuple #[v', .int .i64 0]) ∧ Ns w' (fun g => W.heap.size ≤ g) v' B ∧ Keeps [] W w') := fun W hk u hu => by have := b2.out W hk u hu; rw [hch, if_pos rfl, bB] at this; exact this
      clear bB kB nB hch
      have d1 : decide (((flatL B).length : Int) ≤ 3000) = true := decide_eq_true (by omega)
      go_enter Tryz.func4, Tryz.ntmps4
      go_wp2_with fail
      refine (treeBegun_any _ hM).mono ?_
      rintro e w1 ⟨rfl, hk1⟩
      go_wp2_with fail
      refine (tokenBegun_any _ (hMk.out w1 hk1)).mono ?_
      rintro e w2 ⟨rfl, hk2⟩
      have hk02 := hk1.trans hk2
      clear hk1 hk2
      go_wp2_with fail
      refine (b1.out w2 hk02).mono ?_
      rintro e w3 ⟨v3, rfl, hN3, hk3⟩
      have hk03 := hk02.trans hk3
      obtain ⟨o3, c3, hv3⟩ := hN3.form
      subst hv3
      have HN3 := hide hN3
      clear hN3 hk3 hk02 b1
      go_wp2_with fail
      refine (f1.out w3 _ _ HN3.out).mono ?_
      rintro e w4 ⟨a4, c4, rfl, ht4, hk4⟩
      have hk04 := hk03.trans hk4
      have HT4 := hide ht4
      have HN4 := hide (HN3.out.keeps0 hk4)
      clear ht4 hk4 f1
      go_wp2_with fail
      refine (k1.out w4 _ _ HN4.out).mono ?_
      rintro e w5 ⟨rfl, hk5⟩
      have hk05 := hk04.trans hk5
      have HT5 := hide (HT4.out.keeps hk5)
      have HN5 := hide (HN4.out.keeps0 hk5)
      clear hk5 k1 HN4
      go_wp2_with fail
      refine (t1.out w5 _ HT5.out).mono ?_
      rintro e w6 ⟨rfl, hk6⟩
      have hk06 := hk05.trans hk6
      have HT6 := hide (HT5.out.keeps hk6)
      have HN6 := hide (HN5.out.keeps0 hk6)
      clear hk6 t1 HN5
      go_wp2_with fail
      refine (b2.out w6 hk06 _ HT6.out).mono ?_
      rintro e w7 ⟨v7, rfl, hN7, hk7⟩
      have hk07 := hk06.trans hk7
      obtain ⟨o7, c7, hv7⟩ := hN7.form
      subst hv7
      have HN7 := hide (HN6.out.keeps0 hk7)
      have HM7 := hide hN7
      clear hN7 b2
      go_wp2_with fail
      refine (s1.out w7 w7 _ _ _ _ (Keeps.refl _ _) HN7.out HM7.out).mono ?_
      rintro e w8 ⟨rfl, n8, rfl⟩
      have hk08 := hk07.drewN n8
      rcases second.out (w7.drewN n8) hk08 with ⟨hE, hcl⟩ | ⟨hl2, hcl⟩ | ⟨hl2, hcl⟩
      · have e1 : (E2 != 0) = true := by simpa using hE
        have e2 : (E2 == 0) = false := by simpa using hE
        have HCL := hide hcl
        clear hcl second hE
        go_wp2_with fail
        refine HCL.out.mono ?_
        rintro e x1 ⟨a, c, rfl, hx1⟩
        go_wp2_with fail
        go_ret
        exact ⟨rfl, (hk08).trans hx1⟩
      · have e1 : decide ((3000 : Int) < (N2 : Int)) = true := decide_eq_true (by omega)
        have HCL := hide hcl
        clear hcl second hl2
        go_wp2_with fail
        refine HCL.out.mono ?_
        rintro e x1 ⟨a, c, rfl, hx1⟩
        go_wp2_with fail
        go_ret
        exact ⟨rfl, (hk08).trans hx1⟩
      · have e1 : decide ((3000 : Int) < (N2 : Int)) = false := decide_eq_false (by omega)
        have HCL := hide hcl
        clear hcl second hl2
        go_wp2_with fail
        refine HCL.out.mono ?_
        rintro e x1 ⟨a, c, rfl, hx1, hcl2⟩
        have HC2 := hide hcl2
        clear hcl2 HCL
        go_wp2_with fail
        refine HC2.out.mono ?_
        rintro e x2 ⟨o3, c3, rfl, hx2, hcl3⟩
        have HC3 := hide hcl3
        clear hcl3 HC2
        go_wp2_with fail
        refine HC3.out.mono ?_
        rintro e x3 ⟨rfl, hx3⟩
        go_wp2_with fail
        go_ret
        exact ⟨rfl, (((hk08).trans hx1).trans hx2).trans hx3⟩
  · have b1 : Hid (∀ W : World, Keeps [] w W → Calls Tryz.prog 6 #[.slice o1 n1 c1] W (fun e w' => ∃ v', e = .returned (.tuple #[v', .int .i64 (chkL ts)]) ∧ Ns w' (fun g => W.heap.size ≤ g) v' [] ∧ Keeps [] W w')) := by
      intro W hk
      have := build1.out W hk
      rw [if_neg hc] at this
      exact this
    clear build1 hfb
    generalize chkL ts = E1 at *
    have g1 : (E1 == 0) = false := by simpa using hc
    go_enter Tryz.func4, Tryz.ntmps4
    go_wp2_with fail
    refine (treeBegun_any _ hM).mono ?_
    rintro e w1 ⟨rfl, hk1⟩
    go_wp2_with fail
    refine (tokenBegun_any _ (hMk.out w1 hk1)).mono ?_
    rintro e w2 ⟨rfl, hk2⟩
    have hk02 := hk1.trans hk2
    clear hk1 hk2
    go_wp2_with fail
    refine (b1.out w2 hk02).mono ?_
    rintro e w3 ⟨v3, rfl, hN3, hk3⟩
    have hk03 := hk02.trans hk3
    obtain ⟨o3, c3, hv3⟩ := hN3.form
    subst hv3
    clear hN3 hk3 hk02 b1
    rcases second.out w3 hk03 with ⟨hE, hcl⟩ | ⟨hl2, hcl⟩ | ⟨hl2, hcl⟩
    · have e1 : (E2 != 0) = true := by simpa using hE
      have e2 : (E2 == 0) = false := by simpa using hE
      have HCL := hide hcl
      clear hcl second hE
      go_wp2_with fail
      refine HCL.out.mono ?_
      rintro e x1 ⟨a, c, rfl, hx1⟩
      go_wp2_with fail
      go_ret
      exact ⟨rfl, (hk03).trans hx1⟩
    · have e1 : decide ((3000 : Int) < (N2 : Int)) = true := decide_eq_true (by omega)
      have HCL := hide hcl
      clear hcl second hl2
      go_wp2_with fail
      refine HCL.out.mono ?_
      rintro e x1 ⟨a, c, rfl, hx1⟩
      go_wp2_with fail
      go_ret
      exact ⟨rfl, (hk03).trans hx1⟩
    · have e1 : decide ((3000 : Int) < (N2 : Int)) = false := decide_eq_false (by omega)
      have HCL := hide hcl
      clear hcl second hl2
      go_wp2_with fail
      refine HCL.out.mono ?_
      rintro e x1 ⟨a, c, rfl, hx1, hcl2⟩
      have HC2 := hide hcl2
      clear hcl2 HCL
      go_wp2_with fail
      refine HC2.out.mono ?_
      rintro e x2 ⟨o3, c3, rfl, hx2, hcl3⟩
      have HC3 := hide hcl3
      clear hcl3 HC2
      go_wp2_with fail
      refine HC3.out.mono ?_
      rintro e x3 ⟨rfl, hx3⟩
      go_wp2_with fail
      go_ret
      exact ⟨rfl, (((hk03).trans hx1).trans hx2).trans hx3⟩
end Go.Proofs.YtngojdajamgababGreat

namespace Go.Proofs.YtngojdajamgababGreat
open Go.ChangeShapes Go.WideShapes Go.ChangeAt Go.RowKit
open Go.ChangeMaps (open_string shut_string)

theorem treeBack_own : ownKnob Tryz.prog.godebug = none := by kernel_rfl
theorem laid_out : laidOutB Tryz.prog = true := by kernel_rfl
theorem max_shaped (W : World) (h : W.ShapedOpen Tryz.prog) : HasMax W := Tryz.laysM143.s1_3 W h

/-- A row with a condition, whose contract is told the world's shape too. -/
theorem of_cond_shaped {H : Type} {enc : TypeId × Value → H} {a : Assume} {C : Checked} {os : Os} {f : FuncId} {fn : Func} {s : OpenSpec} {k : (H : Type) → List (DataW H) → Bool} (hk : s.cond = some k) {F : Stop.Interp} {conds : List PathCond} {apart fresh handsOn again : Bool}
    (own : ownKnob C.prog.godebug = none) (started : os.Started) (noInit : C.prog.inits.idxOf? f = none) (hfn : C.prog.funcs[f]? = some fn)
    (witness : ∃ (w : World) (tape : Tape) (i : Input), w.os = os ∧ (w.forCall tape i).Shaped C.prog ∧ i.vars = [] ∧ Input.okWide C.prog (w.forCall tape i) .any w.heap.size f i ∧
      s.pre6 enc C.prog fn conds apart (w.forCall tape i).memory i.args ∧ a.holds C.prog (lone (Frame.enter C.prog f i.args .normal) [] (w.forCall tape i)))
    (contract : ∀ (W : World) (base : Nat) (args : Array Value) (ds gs : List (DataW H)) (before : List MemPlace),
      (∀ (j : Nat) t v, fn.params[j]? = some t → args[j]? = some v → Value.okWide C.prog W .any base t v) →
      DataW.Whole enc C.prog fn.params.toList s.vars apart W args.toList ds gs before →
      k H (ds ++ gs) = true → W.ShapedOpen C.prog →
      Calls C.prog f args W fun e W' => ∃ v, e = .returned v ∧ (s.at F).post enc C.prog fn apart fresh handsOn again W args v W') :
    ReturnsInHanded a C os f .any (s.pre6 enc C.prog fn conds apart) ((s.at F).post enc C.prog fn apart fresh handsOn again) := by
  refine returnsInHanded_of_calls own started noInit witness ?_
  intro w tape i _ hsh _ hok hpre hholds
  obtain ⟨_, _, _, fn', hfn', _, _, _, _, hval⟩ := hok
  have e : fn' = fn := Option.some.inj (hfn'.symm.trans hfn)
  subst e
  obtain ⟨ds, gs, before, hw, hc, hkk⟩ := (OpenSpec.pre_some hk conds apart _ _).1 hpre.1
  have hw' := DataW.Whole.of_heap (w' := w.forCall tape i) (by rfl) hw
  refine (contract (w.forCall tape i) w.heap.size i.args ds gs before hval hw' hkk hsh).mono fun e W' ⟨v, he, hp⟩ => ?_
  subst he
  exact ChangeSpec.post_blind hp

set_option maxRecDepth 100000 in
theorem treeBack_lifted (os : Os) (started : os.Started) (H : Type) (enc : TypeId × Value → H) (F : Stop.Interp) :
    ReturnsInHanded {} Tryz.checked os 4 .any ((Rows.OpenSpec.upto Rows.treeBackSpec).pre6 enc Tryz.prog Tryz.f4 Rows.treeBackUptoRow.domain false) (((Rows.OpenSpec.upto Rows.treeBackSpec).at F).post enc Tryz.prog Tryz.f4 false true false false) := by
  refine of_cond_shaped (C := Tryz.checked) (s := Rows.OpenSpec.upto Rows.treeBackSpec) (k := Rows.uptoSmall) rfl treeBack_own started (by kernel_rfl) Tryz.func4
    (OpenSpec.witness (enc := enc) (C := Tryz.checked) (s := Rows.OpenSpec.upto Rows.treeBackSpec) (k := Rows.uptoSmall) rfl false ⟨#[], #[.slice none 0 0, .slice none 0 0], []⟩ 8 (by kernel_rfl) (by kernel_rfl) (by kernel_rfl)
      (x := ([.nil, .nil], [], [])) (by kernel_rfl) rfl (by kernel_rfl)) ?_
  intro W base args ds gs before hval0 hW hk hsh
  have hval : ∀ (j : Nat) t v, Tryz.f4.params[j]? = some t → args[j]? = some v → Value.okWide Tryz.prog W .any base t v := hval0
  have hM : HasMax W := max_shaped W hsh
  have hW' := hW
  obtain ⟨p, q, hA0, hV, rfl, hfz, hnd⟩ := hW
  have hA : DataW.TrodAll enc Tryz.prog W 0 (fun _ => true) true Tryz.f4.params.toList args.toList ds p := hA0
  rw [Tryz.params4] at hA hval
  obtain ⟨v1, v2, d1, d2, p1, p2, rfl, rfl, rfl, h1, h2⟩ := trodAll_two hA
  obtain ⟨rfl, rfl⟩ := trodVars_none hV
  have hlt : ∀ x ∈ p1 ++ p2, x.block < W.heap.size := fun x hx => hW'.lt x (by simpa using hx)
  have hb : Rows.uptoBulkAll ([d1, d2] ++ ([] : List (DataW H))) ≤ 1048576 := of_decide_eq_true hk
  simp only [List.append_nil, Rows.uptoBulkAll] at hb
  obtain ⟨fuel1, hf1⟩ := id h1
  obtain ⟨fuel2, hf2⟩ := id h2
  obtain ⟨o1, n1, c1, rfl⟩ := okWide_slice Tryz.underlying22 (hval 0 22 v1 rfl rfl)
  obtain ⟨o2, n2, c2, rfl⟩ := okWide_slice Tryz.underlying23 (hval 1 23 v2 rfl rfl)
  obtain ⟨ts, hts, hbl⟩ := toks_down (by simpa [Value.cells] using hf1)
  obtain ⟨ns, hns, hbn⟩ := nodes_down _ _ _ _ (Nat.le_refl _) (by simpa [Value.cells] using hf2)
  clear hA0 hval0
  simp only [List.append_nil] at hW'
  refine (back_any W _ _ ts ns hts (by simp only at hbl; omega) hns (by simp only at hbn; omega) hM).mono fun e W' ⟨he, hg⟩ => ?_
  subst he
  refine ⟨_, rfl, _, _, _, [], p1 ++ (p2 ++ []), [], hW', trodAll_cons_mk (shut_bool Tryz.underlying4 _) trodAll_mk0, ?_, rfl, hg.nil_below.frame _, fun h => by cases h⟩
  exact trodAll_cons_mk (Below.trod laid_out (by kernel_rfl) (of_decide_eq_true (by kernel_rfl)) h1 hg.nil_below (fun x hx => hlt x (by simp [hx]))) (trodAll_cons_mk (Below.trod laid_out (by kernel_rfl) (of_decide_eq_true (by kernel_rfl)) h2 hg.nil_below (fun x hx => hlt x (by simp [hx]))) trodAll_mk0)

theorem treeBack_upto : Rows.TreeBackUptoSaid :=
  OpenClaim.holds_of_cond 4 Tryz.f4 rfl rfl rfl rfl rfl rfl rfl ⟨rfl, rfl, rfl, rfl, rfl⟩ rfl rfl rfl rfl rfl (by kernel_rfl) Tryz.func4 (by kernel_rfl)
    (of_decide_eq_true (by kernel_rfl)) (by unfold Func.isWrapper; first | (rw [if_pos (by decide +kernel)]; kernel_rfl) | (rw [if_neg (by decide +kernel)]; exact ⟨rfl, rfl⟩))
    (fun os started H enc _ F => treeBack_lifted os started H enc F)
#print axioms treeBack_upto
end Go.Proofs.YtngojdajamgababGreat

/- A keeper: an entry is put. A keeper: put. A keeper: what is too much is cut off. Entries that are just the same: slices.Index, slices.Contains; how many others there are. Shelves that are right are in order; what comes of Put. shelf.Put. -/
import Derived.Test.YtlcljanibjdejaaGreatSo22
namespace Go.Proofs.YtlcljanibjdejaaGreat
open Go.RowKit Go.Maps
theorem IsKp.lt {w : World} {B k : Nat} {ev rv : Value} {s : Sh} (h : IsKp w B k ev rv s) : k < w.heap.size := lt_of_block h.blk
theorem IsKp.keepsNil {w w' : World} {B k : Nat} {ev rv : Value} {s : Sh} (h : IsKp w B k ev rv s) (hk : Keeps [] w w') : IsKp w' B k ev rv s :=
  ⟨(hk.block _ h.lt List.not_mem_nil).trans h.blk, hk.owns h.es (fun _ _ => List.not_mem_nil), hk.owns h.rd (fun _ _ => List.not_mem_nil), h.hb⟩
theorem IsKp.ge {w : World} {B k : Nat} {ev rv : Value} {s : Sh} (h : IsKp w B k ev rv s) : ∀ g, g ∈ tK k ev rv → B ≤ g ∧ g < w.heap.size := by
  intro g hg
  simp only [tK, List.mem_cons, List.mem_append, Option.mem_toList] at hg
  rcases hg with rfl | hg | hg
  · exact ⟨h.hb, h.lt⟩
  · exact h.es.lt g hg
  · exact h.rd.lt g hg
theorem kp_set0 {w w3 : World} {B k : Nat} {ev rv v3 : Value} {s : Sh} {es' : List En} (h : IsKp w B k ev rv s) (hk : Keeps ev.ownBlock.toList w w3) (ho : w3.ownsRow B 75 5 v3 es'.length (ensCells es')) (hw : v3.ownBlock = ev.ownBlock ∨ ∃ n, v3.ownBlock = some n ∧ w.heap.size ≤ n) :
    IsKp (w3.setCell ⟨k, 0, none⟩ v3) B k v3 rv ⟨es', s.rd⟩ ∧ Stp w (tK k ev rv) (w3.setCell ⟨k, 0, none⟩ v3) (tK k v3 rv) := by
  have hbo : k ∉ ev.ownBlock.toList := fun hm => block_ne h.es h.blk (by decide) (by simpa using hm)
  have hblk3 : w3.heap[k]? = some (.cells #[ev, rv] 155 (0, 0)) := by rw [hk.block k h.lt hbo]; exact h.blk
  have hks : Keeps [k] w3 (w3.setCell ⟨k, 0, none⟩ v3) := (Keeps.refl [k] w3).setCell (.inl (by simp)) _
  have hrd3 : w3.ownsRow B 9 1 rv s.rd.length (idCs s.rd) := hk.owns h.rd (fun g hg hm => rows_apart h.rd h.es (by decide) hg (by simpa using hm))
  refine ⟨⟨by simp [World.setCell, Array.getElem?_modify, hblk3], set_row ho (block_ne ho hblk3 (by decide)) _, set_row hrd3 (block_ne hrd3 hblk3 (by decide)) _, h.hb⟩, ?_, ?_⟩
  · exact (hk.to (T := tK k ev rv) (fun g hg => by simp [tK] at hg ⊢; exact .inr (.inl hg))).trans (hks.to (fun g hg => by simp [tK] at hg ⊢; exact .inl hg))
  · intro g hg hlt
    simp [tK] at hg ⊢
    rcases hg with hg | hg | hg
    · exact .inl hg
    · rcases hw with hw | ⟨n, hw, hn⟩
      · exact .inr (.inl (hw ▸ hg))
      · rw [hw] at hg; simp at hg; omega
    · exact .inr (.inr hg)
theorem kp_set1 {w w3 : World} {B k : Nat} {ev rv v3 : Value} {s : Sh} {rd' : List (List UInt8)} (h : IsKp w B k ev rv s) (hk : Keeps rv.ownBlock.toList w w3) (ho : w3.ownsRow B 9 1 v3 rd'.length (idCs rd')) (hw : v3.ownBlock = rv.ownBlock ∨ ∃ n, v3.ownBlock = some n ∧ w.heap.size ≤ n) :
    IsKp (w3.setCell ⟨k, 1, none⟩ v3) B k ev v3 ⟨s.es, rd'⟩ ∧ Stp w (tK k ev rv) (w3.setCell ⟨k, 1, none⟩ v3) (tK k ev v3) := by
  have hbo : k ∉ rv.ownBlock.toList := fun hm => block_ne h.rd h.blk (by decide) (by simpa using hm)
  have hblk3 : w3.heap[k]? = some (.cells #[ev, rv] 155 (0, 0)) := by rw [hk.block k h.lt hbo]; exact h.blk
  have hks : Keeps [k] w3 (w3.setCell ⟨k, 1, none⟩ v3) := (Keeps.refl [k] w3).setCell (.inl (by simp)) _
  have hes3 : w3.ownsRow B 75 5 ev s.es.length (ensCells s.es) := hk.owns h.es (fun g hg hm => rows_apart h.es h.rd (by decide) hg (by simpa using hm))
  refine ⟨⟨by simp [World.setCell, Array.getElem?_modify, hblk3], set_row hes3 (block_ne hes3 hblk3 (by decide)) _, set_row ho (block_ne ho hblk3 (by decide)) _, h.hb⟩, ?_, ?_⟩
  · exact (hk.to (T := tK k ev rv) (fun g hg => by simp [tK] at hg ⊢; exact .inr (.inr hg))).trans (hks.to (fun g hg => by simp [tK] at hg ⊢; exact .inl hg))
  · intro g hg hlt
    simp [tK] at hg ⊢
    rcases hg with hg | hg | hg
    · exact .inl hg
    · exact .inr (.inl hg)
    · rcases hw with hw | ⟨n, hw, hn⟩
      · exact .inr (.inr (hw ▸ hg))
      · rw [hw] at hg; simp at hg; omega
theorem idxFE_cases (id : List UInt8) : ∀ (l : List En) (k : Nat), (idxFE id l k = -1 ∧ ∀ y ∈ l, y.id ≠ id) ∨ ∃ i, ∃ hi : i < l.length, idxFE id l k = ((k + i : Nat) : Int) ∧ l[i].id = id
  | [], _ => .inl ⟨rfl, by simp⟩
  | x :: r, k => by
    unfold idxFE
    by_cases h : x.id = id
    · rw [if_pos h]
      exact .inr ⟨0, by simp, by simp, h⟩
    · rw [if_neg h]
      rcases idxFE_cases id r (k + 1) with ⟨h1, h2⟩ | ⟨i, hi, h1, h2⟩
      · exact .inl ⟨h1, fun y hy => by rcases List.mem_cons.1 hy with rfl | hy; exact h; exact h2 y hy⟩
      · exact .inr ⟨i + 1, by simp; omega, by rw [h1]; congr 1; omega, by simpa using h2⟩
theorem idxE_cases (id : List UInt8) (l : List En) : (idxE id l = -1 ∧ ∀ y ∈ l, y.id ≠ id) ∨ ∃ i, ∃ hi : i < l.length, idxE id l = (i : Int) ∧ l[i].id = id := by
  have := idxFE_cases id l 0
  simpa [idxE] using this
theorem putE_none {l : List En} {x : En} (h : ∀ y ∈ l, y.id ≠ x.id) : putE l x = insE l x := by
  unfold putE
  rw [List.find?_eq_none.2 (fun y hy => by simpa using h y hy)]
theorem once_ne {l : List En} (h : OnceE l) {i j : Nat} (hi : i < l.length) (hj : j < l.length) (hne : i ≠ j) : l[i].id ≠ l[j].id := by
  rcases Nat.lt_or_gt_of_ne hne with h1 | h1
  · exact List.pairwise_iff_getElem.1 h i j hi hj h1
  · exact (List.pairwise_iff_getElem.1 h j i hj hi h1).symm
theorem filter_cut {l : List En} (h : OnceE l) {i : Nat} (hi : i < l.length) {id : List UInt8} (hid : l[i].id = id) : l.filter (fun z => !(z.id == id)) = l.take i ++ l.drop (i + 1) := by
  have e : l = l.take i ++ l[i] :: l.drop (i + 1) := by rw [← List.drop_eq_getElem_cons hi, List.take_append_drop]
  conv => lhs; rw [e]
  rw [List.filter_append, List.filter_cons]
  have h1 : (l.take i).filter (fun z => !(z.id == id)) = l.take i := List.filter_eq_self.2 (fun y hy => by
    obtain ⟨j, hj, rfl⟩ := List.getElem_of_mem hy
    rw [List.length_take] at hj
    have := once_ne h (i := j) (j := i) (by omega) hi (by omega)
    rw [List.getElem_take]
    rw [hid] at this
    simpa using this)
  have h2 : (l.drop (i + 1)).filter (fun z => !(z.id == id)) = l.drop (i + 1) := List.filter_eq_self.2 (fun y hy => by
    obtain ⟨j, hj, rfl⟩ := List.getElem_of_mem hy
    rw [List.length_drop] at hj
    have := once_ne h (i := i + 1 + j) (j := i) (by omega) hi (by omega)
    rw [List.getElem_drop]
    rw [hid] at this
    simpa using this)
  rw [h1, h2, hid]
  simp
theorem putE_found {l : List En} {x : En} (h : OnceE l) {i : Nat} (hi : i < l.length) (hid : l[i].id = x.id) : putE l x = if x.tm < l[i].tm then l else insE (l.take i ++ l.drop (i + 1)) x := by
  unfold putE
  cases hf : l.find? (fun y => y.id == x.id) with
  | none =>
    have := List.find?_eq_none.1 hf l[i] (List.getElem_mem hi)
    simp [hid] at this
  | some y =>
    have hy := List.mem_of_find?_eq_some hf
    have he := List.find?_some hf
    have : y = l[i] := once_eq h hy (List.getElem_mem hi) (by rw [hid]; simpa using he)
    subst this
    simp only
    rw [filter_cut h hi hid]
theorem insE_eq (l : List En) (x : En) : insE l x = l.take (aheadN l x) ++ x :: l.drop (aheadN l x) := by
  rw [aheadN_take, aheadN_drop]
  rfl
theorem insE_len (l : List En) (x : En) : (insE l x).length = l.length + 1 := by
  rw [insE_eq]
  have := aheadN_le l x
  simp
  omega
theorem enters191 : Enters 191 := enters_of Tryz.func191 (by kernel_rfl) (by kernel_rfl)
theorem enters193 : Enters 193 := enters_of Tryz.func193 (by kernel_rfl) (by kernel_rfl)
end Go.Proofs.YtlcljanibjdejaaGreat
namespace Go.Proofs.YtlcljanibjdejaaGreat
open Go.RowKit Go.Maps
set_option maxRecDepth 8000 in
set_option maxHeartbeats 32000000 in
theorem put_kp (w : World) (B k : Nat) (ev rv : Value) (es : List En) (rd : List (List UInt8)) (x : En) (h : IsKp w B k ev rv ⟨es, rd⟩) (hs : SortedE es) (ho : OnceE es) (hl : es.length ≤ 900) :
    Calls Tryz.prog 118 #[.pointer (some ⟨k, 0, none⟩), .agg (enCells x).toArray] w fun e w' => e = .returned (.tuple #[]) ∧ ∃ ev', IsKp w' B k ev' rv ⟨putE es x, rd⟩ ∧ Stp w (tK k ev rv) w' (tK k ev' rv) := by
  obtain ⟨W, hW⟩ : ∃ W, w.alloc (.cells (enCells x).toArray 75) = W := ⟨_, rfl⟩
  have hkW : Keeps [] w W := by rw [← hW]; exact (Keeps.refl [] w).alloc _
  have hb := (nblk_new rfl hW).1
  have b0 : W.cell? ⟨w.heap.size, 0, none⟩ = some (.string ⟨x.id.toArray⟩) := cell_blk hb 0
  have hpl := hide (place_any W B k ev rv ⟨es, rd⟩ x.id (h.keepsNil hkW))
  have HH := hide h
  have HKW := hide hkW
  have HB := hide hb
  have HW := hide hW
  have hS := hide hs
  have hO := hide ho
  simp only at hpl
  clear h hkW hb hW hs ho
  rcases idxE_cases x.id es with ⟨hidx, hno⟩ | ⟨i, hi, hidx, hid⟩
  · rw [hidx] at hpl
    have hput := putE_none hno
    clear hidx hno
    go_enter Tryz.func118, Tryz.ntmps118
    go_upto_region 1 with fail
    rw [HW.out]
    go_wp2_with fail
    refine hpl.out.mono ?_
    rintro e w1 ⟨rfl, hk1⟩
    have hkp1 := HH.out.keepsNil (HKW.out.trans hk1)
    have hbx1 := (hk1.block _ (lt_of_block HB.out) List.not_mem_nil).trans HB.out
    have HACC := hide (Stp.nil (HKW.out.trans hk1) (tK k ev rv))
    clear hk1 b0
    have hes := (hkp1).es
    have hblk := (hkp1).blk
    have hlk := (hkp1).lt
    have hBk := (hkp1).hb
    simp only at hes
    obtain ⟨eo, ec, rfl⟩ := row_form hes
    have c0 := cell_blk hblk 0
    simp at c0
    have a0 := ncell_all (Keeps.refl _ _) hbx1 0
    have a1 := ncell_all (Keeps.refl _ _) hbx1 1
    have a2 := ncell_all (Keeps.refl _ _) hbx1 2
    have a3 := ncell_all (Keeps.refl _ _) hbx1 3
    have a4 := ncell_all (Keeps.refl _ _) hbx1 4
    simp [enCells] at a0 a1 a2 a3 a4
    have hsr := hide (fun w' (hk' : Keeps [] w1 w') => search191_any w' _ _ x ((Lies.of_row hes).keeps hk') hS.out (by have := hl; omega))
    unfold enCells at hsr
    have hins := hide (fun w' (hk' : Keeps [] w1 w') (vb : Nat) (hvb : w'.heap[vb]? = some (.cells (ensCells [x]).toArray 75 (0, 0))) (hvn : w1.heap.size ≤ vb) => insert193_any w' B (aheadN (es) x) _ _ x vb (hk'.owns hes (fun _ _ => List.not_mem_nil)) (aheadN_le _ _) (by have := hl; omega) hvb (fun e => by have := (hes.lt _ e).2; omega) (Nat.le_trans (Nat.le_trans hBk (Nat.le_of_lt hlk)) hk'.size))
    rw [← insE_eq] at hins
    have HBLK := hide hblk
    have HES := hide hes
    have HBX := hide hbx1
    have HKP := hide hkp1
    have hLN := hl
    clear hes hblk
    obtain ⟨m, hm⟩ : ∃ m, aheadN (es) x = m := ⟨_, rfl⟩
    rw [hm] at hsr hins
    have hmle : m ≤ (es).length := by rw [← hm]; exact aheadN_le _ _
    clear hm
    go_upto_region 5 with fail
    go_cut [5, 6] from 38 to 60 (fun p q wc => p = .int .i64 m ∧ Keeps [] w1 wc)
    case first =>
      go_region_law (refine step_call rfl 191 _ _ rfl enters191 #[.slice eo (es).length ec, .agg #[.string ⟨x.id.toArray⟩, .string ⟨x.title.toArray⟩, .string ⟨x.link.toArray⟩, .int .i64 x.tm, .string ⟨x.html.toArray⟩], .func (.func 192) #[] #[]] (by first | (simp [Act.eval]; done) | (simp [Act.eval, Act.put]; done) | kernel_rfl) (hsr.out _ (by first | exact Keeps.refl _ _ | exact (Keeps.refl _ _).drew)) ?_; rintro e w2 ⟨bb, rfl, hk2⟩; refine ⟨_, rfl, ?_⟩)
      all_goals go_wp2_with fail
      all_goals go_meet
      all_goals exact ⟨rfl, by first | exact hk2 | exact ((Keeps.refl _ _).drew).trans hk2⟩
    case rest =>
      obtain ⟨rfl, hkc⟩ := hcut
      have HKC := hide hkc
      have d0 := cell_keeps hkc c0
      have e0 := cell_keeps hkc a0
      have e1 := cell_keeps hkc a1
      have e2 := cell_keeps hkc a2
      have e3 := cell_keeps hkc a3
      have e4 := cell_keeps hkc a4
      have hszc := hkc.size
      have d0a : ∀ o, (wc.alloc o).cell? ⟨k, 0, none⟩ = some (.slice eo (es).length ec) := fun o => (cell_past (a := ⟨k, 0, none⟩) (Nat.lt_of_lt_of_le hlk hszc) o).trans d0
      clear hkc c0 a0 a1 a2 a3 a4 hsr
      go_upto_region 6 with fail
      go_region_law (refine step_call rfl 193 _ _ rfl enters193 #[.slice eo (es).length ec, .int .i64 m, .slice (some ⟨wc.heap.size, 0, none⟩) 1 1] (by first | (simp [Act.eval]; done) | (simp [Act.eval, Act.put]; done) | kernel_rfl) (hins.out _ (by first | exact Keeps.refl _ _ | exact (Keeps.refl _ _).drew | exact (HKC.out.alloc _).drew | exact (HKC.out.drew).alloc _ | exact HKC.out.alloc _ | exact HKC.out.drew | exact HKC.out) wc.heap.size (by first | exact heap_alloc_new wc _ | exact heap_alloc_new wc.drew _) hszc) ?_; rintro e w7 ⟨v7, rfl, ho7, hk7, hw7⟩; obtain ⟨o7, c7, rfl⟩ := row_form ho7; refine ⟨_, rfl, ?_⟩; have hb7 := (hk7.block k (Nat.lt_of_lt_of_le hlk (Nat.le_trans hszc (by simp))) (fun hm9 => block_ne HES.out HBLK.out (by decide) (by simpa using hm9))).trans ((HKP.out.keepsNil (by first | exact Keeps.refl _ _ | exact (Keeps.refl _ _).drew | exact (HKC.out.alloc _).drew | exact (HKC.out.drew).alloc _ | exact HKC.out.alloc _ | exact HKC.out.drew | exact HKC.out)).blk); have x7 := cell_blk hb7 0; have y7 := free_blk hb7 0; simp at x7)
      all_goals go_wp2_with fail
      all_goals go_end0
      all_goals
        have hfin := kp_set0 (es' := insE (es) x) (HKP.out.keepsNil (by first | exact Keeps.refl _ _ | exact (Keeps.refl _ _).drew | exact (HKC.out.alloc _).drew | exact (HKC.out.drew).alloc _ | exact HKC.out.alloc _ | exact HKC.out.drew | exact HKC.out)) hk7 (by rw [insE_len]; exact ho7) (hw7.imp id (fun e => ⟨_, e, Nat.le_refl _⟩))
        refine ⟨rfl, .slice o7 ((es).length + 1) c7, ?_, ?_⟩
        · rw [hput]; exact hfin.1
        · exact (HACC.out).trans ((Stp.nil (by first | exact Keeps.refl _ _ | exact (Keeps.refl _ _).drew | exact (HKC.out.alloc _).drew | exact (HKC.out.drew).alloc _ | exact HKC.out.alloc _ | exact HKC.out.drew | exact HKC.out) _).trans hfin.2)
  · rw [hidx] at hpl
    have hput := putE_found hO.out hi hid
    have hit : (0 : Int) ≤ (i : Int) := by omega
    have hil : (i : Int) < (es.length : Int) := by omega
    clear hidx
    go_enter Tryz.func118, Tryz.ntmps118
    go_upto_region 1 with fail
    rw [HW.out]
    go_wp2_with fail
    refine hpl.out.mono ?_
    rintro e w1 ⟨rfl, hk1⟩
    have hkp1 := HH.out.keepsNil (HKW.out.trans hk1)
    have hbx1 := (hk1.block _ (lt_of_block HB.out) List.not_mem_nil).trans HB.out
    have HACC := hide (Stp.nil (HKW.out.trans hk1) (tK k ev rv))
    have hes1 := hkp1.es
    simp only at hes1
    obtain ⟨g, cap, cur, rfl, hBg, hg, hnc, hcap, hcs, htake⟩ : ∃ g cap cur, ev = .slice (some ⟨g, 0, none⟩) es.length cap ∧ B ≤ g ∧ w1.heap[g]? = some (.cells cur 75 (0, 0)) ∧ es.length ≤ cap ∧ cap ≤ maxLen ∧ cur.size = cap * 5 ∧ cur.toList.take (es.length * 5) = ensCells es := by
      rcases hes1.2 with ⟨_, h0⟩ | h1
      · omega
      · exact h1
    obtain ⟨_, _, e9, hc9⟩ := (Lies.of_row hes1).addr (by omega)
    injection e9 with e9
    injection e9 with e91 e92 e93
    subst e91 e92
    obtain ⟨a0, a1, a2, a3, a4⟩ := lies_en hc9 i hi
    have t3 := ncell_all (Keeps.refl _ _) hbx1 3
    simp [enCells] at t3
    simp only [Nat.zero_add] at a0 a1 a2 a3 a4
    have c0 := cell_blk hkp1.blk 0
    simp at c0
    unfold maxLen at hcap
    clear hk1 b0 hc9 e93
    by_cases hlt : x.tm < es[i].tm
    · have hd : decide (x.tm < es[i].tm) = true := decide_eq_true hlt
      rw [if_pos hlt] at hput
      clear hlt
      generalize es[i] = y at *
      go_wp2_with fail
      go_quiet (fail)
      go_wp2_with fail
      refine bodyPost_ret (results_none rfl _ _ _) rfl ?_
      refine ⟨rfl, .slice (some ⟨g, 0, none⟩) es.length cap, ?_, ?_⟩
      · rw [hput]; exact hkp1.keepsNil ((Keeps.refl _ _).drewN _)
      · exact HACC.out.trans (Stp.nil ((Keeps.refl _ _).drewN _) _)
    · have hd : decide (x.tm < es[i].tm) = false := decide_eq_false hlt
      rw [if_neg hlt] at hput
      clear hlt
      have hwi : IntKind.i64.wrap ((i : Int) + 1) = (i : Int) + 1 := by rw [IntKind.wrap_i64]; omega
      have hdl := hide (fun w' (hk' : Keeps [] w1 w') => delete190_any w' g cap es.length i (i + 1) cur es ((hk'.block _ (lt_of_block hg) List.not_mem_nil).trans hg) rfl hnc hcs htake (by omega) (by omega))
      have hei : ((i + 1 : Nat) : Int) = (i : Int) + 1 := by omega
      rw [hei] at hdl
      have hlen2 : (es.take i ++ es.drop (i + 1)).length = es.length - (i + 1 - i) := by simp; omega
      rw [← hlen2] at hdl
      have hl2 : (es.take i ++ es.drop (i + 1)).length ≤ 900 := by rw [hlen2]; omega
      have hl2c : (es.take i ++ es.drop (i + 1)).length ≤ cap := by rw [hlen2]; omega
      have hS2 : SortedE (es.take i ++ es.drop (i + 1)) := by rw [← filter_cut hO.out hi hid]; exact sorted_filter hS.out _
      generalize es[i] = y at *
      have HG := hide hg
      have HKP1 := hide hkp1
      have HBX1 := hide hbx1
      have HS2 := hide hS2
      clear hg htake hcs hS2 hlen2
      obtain ⟨E2, hE2⟩ : ∃ E2, es.take i ++ es.drop (i + 1) = E2 := ⟨_, rfl⟩
      rw [hE2] at hput HS2 hdl hl2 hl2c
      clear hE2 hkp1 hbx1
      go_wp2_with fail
      go_quiet (fail)
      have hkq : Keeps [] w1 (w1.drewN nq) := (Keeps.refl [] w1).drewN nq
      have c0n := cell_keeps hkq c0
      clear c0 a0 a1 a2 a3 a4 t3
      go_wp2_with fail
      refine (hdl.out _ hkq).mono ?_
      rintro e w4 ⟨rfl, cur4, hg4, hcs4, ht4, hk4⟩
      have hkpq := HKP1.out.keepsNil hkq
      have hkg : k ≠ g := fun e => block_ne hkpq.es hkpq.blk (by decide) (by rw [e]; rfl)
      have hb4 := (hk4.block k hkpq.lt (by simpa using hkg)).trans hkpq.blk
      have x4 := cell_blk hb4 0
      have y4 := free_blk hb4 0
      simp at x4
      have hown4 : w4.ownsRow B 75 5 (.slice (some ⟨g, 0, none⟩) E2.length cap) E2.length (ensCells E2) := ⟨ensCells_len E2, .inr ⟨g, cap, cur4, rfl, hBg, hg4, hl2c, by unfold maxLen; exact hcap, hcs4, ht4⟩⟩
      have hfin4 := kp_set0 (es' := E2) hkpq (show Keeps (Value.slice (some ⟨g, 0, none⟩) es.length cap).ownBlock.toList (w1.drewN nq) w4 from hk4) hown4 (.inl rfl)
      have hgl : g < w.heap.size := (HH.out.es.lt g rfl).2
      have hkl : k < w.heap.size := HH.out.lt
      have hbx4 := (hk4.block w.heap.size (Nat.lt_of_lt_of_le (lt_of_block HBX1.out) hkq.size) (by simp; omega)).trans ((hkq.block _ (lt_of_block HBX1.out) List.not_mem_nil).trans HBX1.out)
      obtain ⟨W5, hW5⟩ : ∃ W5, w4.setCell ⟨k, 0, none⟩ (.slice (some ⟨g, 0, none⟩) E2.length cap) = W5 := ⟨_, rfl⟩
      rw [hW5] at hfin4
      have hbx5 : W5.heap[w.heap.size]? = some (.cells (enCells x).toArray 75 (0, 0)) := by
        rw [← hW5]
        exact (((Keeps.refl [k] w4).setCell (.inl (by simp)) _).block _ (lt_of_block hbx4) (by simp; omega)).trans hbx4
      have HW5 := hide hW5
      have hkp5 := hfin4.1
      have HACC5 := hide ((HACC.out.trans (Stp.nil hkq _)).trans hfin4.2)
      clear hg4 hcs4 ht4 hk4 hkpq hb4 hown4 hfin4 hbx4 hW5 c0n hdl hkq HKP1 HBX1 hi hil hit hwi hei
      go_upto_region 5 with fail
      rw [HW5.out]
      have hes := (hkp5).es
      have hblk := (hkp5).blk
      have hlk := (hkp5).lt
      have hBk := (hkp5).hb
      simp only at hes
      have c0 := cell_blk hblk 0
      simp at c0
      have a0 := ncell_all (Keeps.refl _ _) hbx5 0
      have a1 := ncell_all (Keeps.refl _ _) hbx5 1
      have a2 := ncell_all (Keeps.refl _ _) hbx5 2
      have a3 := ncell_all (Keeps.refl _ _) hbx5 3
      have a4 := ncell_all (Keeps.refl _ _) hbx5 4
      simp [enCells] at a0 a1 a2 a3 a4
      have hsr := hide (fun w' (hk' : Keeps [] W5 w') => search191_any w' _ _ x ((Lies.of_row hes).keeps hk') HS2.out (by have := hl2; omega))
      unfold enCells at hsr
      have hins := hide (fun w' (hk' : Keeps [] W5 w') (vb : Nat) (hvb : w'.heap[vb]? = some (.cells (ensCells [x]).toArray 75 (0, 0))) (hvn : W5.heap.size ≤ vb) => insert193_any w' B (aheadN (E2) x) _ _ x vb (hk'.owns hes (fun _ _ => List.not_mem_nil)) (aheadN_le _ _) (by have := hl2; omega) hvb (fun e => by have := (hes.lt _ e).2; omega) (Nat.le_trans (Nat.le_trans hBk (Nat.le_of_lt hlk)) hk'.size))
      rw [← insE_eq] at hins
      have HBLK := hide hblk
      have HES := hide hes
      have HBX := hide hbx5
      have HKP := hide hkp5
      have hLN := hl2
      clear hes hblk
      obtain ⟨m, hm⟩ : ∃ m, aheadN (E2) x = m := ⟨_, rfl⟩
      rw [hm] at hsr hins
      have hmle : m ≤ (E2).length := by rw [← hm]; exact aheadN_le _ _
      clear hm
      go_cut [5, 6] from 38 to 60 (fun p q wc => p = .int .i64 m ∧ Keeps [] W5 wc)
      case first =>
        go_region_law (refine step_call rfl 191 _ _ rfl enters191 #[.slice (some ⟨g, 0, none⟩) (E2).length cap, .agg #[.string ⟨x.id.toArray⟩, .string ⟨x.title.toArray⟩, .string ⟨x.link.toArray⟩, .int .i64 x.tm, .string ⟨x.html.toArray⟩], .func (.func 192) #[] #[]] (by first | (simp [Act.eval]; done) | (simp [Act.eval, Act.put]; done) | kernel_rfl) (hsr.out _ (by first | exact Keeps.refl _ _ | exact (Keeps.refl _ _).drew)) ?_; rintro e w2 ⟨bb, rfl, hk2⟩; refine ⟨_, rfl, ?_⟩)
        all_goals go_wp2_with fail
        all_goals go_meet
        all_goals exact ⟨rfl, by first | exact hk2 | exact ((Keeps.refl _ _).drew).trans hk2⟩
      case rest =>
        obtain ⟨rfl, hkc⟩ := hcut
        have HKC := hide hkc
        have d0 := cell_keeps hkc c0
        have e0 := cell_keeps hkc a0
        have e1 := cell_keeps hkc a1
        have e2 := cell_keeps hkc a2
        have e3 := cell_keeps hkc a3
        have e4 := cell_keeps hkc a4
        have hszc := hkc.size
        have d0a : ∀ o, (wc.alloc o).cell? ⟨k, 0, none⟩ = some (.slice (some ⟨g, 0, none⟩) (E2).length cap) := fun o => (cell_past (a := ⟨k, 0, none⟩) (Nat.lt_of_lt_of_le hlk hszc) o).trans d0
        clear hkc c0 a0 a1 a2 a3 a4 hsr
        go_upto_region 6 with fail
        go_region_law (refine step_call rfl 193 _ _ rfl enters193 #[.slice (some ⟨g, 0, none⟩) (E2).length cap, .int .i64 m, .slice (some ⟨wc.heap.size, 0, none⟩) 1 1] (by first | (simp [Act.eval]; done) | (simp [Act.eval, Act.put]; done) | kernel_rfl) (hins.out _ (by first | exact Keeps.refl _ _ | exact (Keeps.refl _ _).drew | exact (HKC.out.alloc _).drew | exact (HKC.out.drew).alloc _ | exact HKC.out.alloc _ | exact HKC.out.drew | exact HKC.out) wc.heap.size (by first | exact heap_alloc_new wc _ | exact heap_alloc_new wc.drew _) hszc) ?_; rintro e w7 ⟨v7, rfl, ho7, hk7, hw7⟩; obtain ⟨o7, c7, rfl⟩ := row_form ho7; refine ⟨_, rfl, ?_⟩; have hb7 := (hk7.block k (Nat.lt_of_lt_of_le hlk (Nat.le_trans hszc (by simp))) (fun hm9 => block_ne HES.out HBLK.out (by decide) (by simpa using hm9))).trans ((HKP.out.keepsNil (by first | exact Keeps.refl _ _ | exact (Keeps.refl _ _).drew | exact (HKC.out.alloc _).drew | exact (HKC.out.drew).alloc _ | exact HKC.out.alloc _ | exact HKC.out.drew | exact HKC.out)).blk); have x7 := cell_blk hb7 0; have y7 := free_blk hb7 0; simp at x7)
        all_goals go_wp2_with fail
        all_goals go_end0
        all_goals
          have hfin := kp_set0 (es' := insE (E2) x) (HKP.out.keepsNil (by first | exact Keeps.refl _ _ | exact (Keeps.refl _ _).drew | exact (HKC.out.alloc _).drew | exact (HKC.out.drew).alloc _ | exact HKC.out.alloc _ | exact HKC.out.drew | exact HKC.out)) hk7 (by rw [insE_len]; exact ho7) (hw7.imp id (fun e => ⟨_, e, Nat.le_refl _⟩))
          refine ⟨rfl, .slice o7 ((E2).length + 1) c7, ?_, ?_⟩
          · rw [hput]; exact hfin.1
          · exact (HACC5.out).trans ((Stp.nil (by first | exact Keeps.refl _ _ | exact (Keeps.refl _ _).drew | exact (HKC.out.alloc _).drew | exact (HKC.out.drew).alloc _ | exact HKC.out.alloc _ | exact HKC.out.drew | exact HKC.out) _).trans hfin.2)
end Go.Proofs.YtlcljanibjdejaaGreat
namespace Go.Proofs.YtlcljanibjdejaaGreat
open Go.RowKit Go.Maps
theorem del190_nil (w : World) : Calls Tryz.prog 190 #[.slice none 0 0, .int .i64 0, .int .i64 0] w fun e w' => e = .returned (.slice none 0 0) ∧ w' = w := by
  go_enter Tryz.func190, Tryz.ntmps190
  go_wp2_with fail
  go_ret
  exact ⟨rfl, rfl⟩
theorem del190_own (w : World) (B i j : Nat) (v : Value) (l : List En) (h : w.ownsRow B 75 5 v l.length (ensCells l)) (hij : i ≤ j) (hj : j ≤ l.length) :
    Calls Tryz.prog 190 #[v, .int .i64 i, .int .i64 j] w fun e w' => ∃ v', e = .returned v' ∧ w'.ownsRow B 75 5 v' (l.take i ++ l.drop j).length (ensCells (l.take i ++ l.drop j)) ∧ Keeps v.ownBlock.toList w w' ∧ v'.ownBlock = v.ownBlock := by
  have hlen : (l.take i ++ l.drop j).length = l.length - (j - i) := by simp; omega
  rcases h.2 with ⟨rfl, h0⟩ | ⟨g, cap, cur, rfl, hBg, hg, hnc, hcap, hcs, htake⟩
  · have hi0 : i = 0 := by omega
    have hj0 : j = 0 := by omega
    subst hi0 hj0
    refine (del190_nil w).mono ?_
    rintro e w' ⟨rfl, rfl⟩
    refine ⟨_, rfl, ?_, Keeps.refl _ _, rfl⟩
    rw [h0] at h
    have : l = [] := List.eq_nil_of_length_eq_zero h0
    subst this
    exact h
  · refine (delete190_any w g cap l.length i j cur l hg rfl hnc hcs htake hij hj).mono ?_
    rintro e w' ⟨rfl, cur', hg', hcs', ht', hk⟩
    refine ⟨_, rfl, ⟨ensCells_len _, .inr ⟨g, cap, cur', by rw [hlen], hBg, hg', by omega, hcap, hcs', by rw [hlen]; exact ht'⟩⟩, hk, rfl⟩
theorem enters190 : Enters 190 := enters_of Tryz.func190 (by kernel_rfl) (by kernel_rfl)
theorem cut_len (l : List En) (n : Nat) : l.take (if l.length < n then l.length else n) ++ l.drop l.length = l.take n := by
  rw [List.drop_eq_nil_of_le (Nat.le_refl _), List.append_nil]
  split
  · rw [List.take_of_length_le (Nat.le_refl _), List.take_of_length_le (by omega)]
  · rfl
set_option maxRecDepth 8000 in
set_option maxHeartbeats 16000000 in
theorem cut_kp (w : World) (B k : Nat) (ev rv : Value) (es : List En) (rd : List (List UInt8)) (h : IsKp w B k ev rv ⟨es, rd⟩) (hl : es.length ≤ 1000) :
    Calls Tryz.prog 119 #[.pointer (some ⟨k, 0, none⟩)] w fun e w' => e = .returned (.tuple #[]) ∧ ∃ ev', IsKp w' B k ev' rv ⟨es.take 20, rd⟩ ∧ Stp w (tK k ev rv) w' (tK k ev' rv) := by
  have hes := h.es
  simp only at hes
  obtain ⟨eo, ec, rfl⟩ := row_form hes
  have c0 := cell_blk h.blk 0
  simp at c0
  obtain ⟨M, hMe, hMl⟩ : ∃ M : Nat, (if es.length < 20 then es.length else 20) = M ∧ M ≤ es.length := ⟨_, rfl, by split <;> omega⟩
  have hcl := cut_len es 20
  rw [hMe] at hcl
  have hMi : min (es.length : Int) 20 = (M : Int) := by rw [← hMe]; split <;> omega
  have hdl := hide (fun w' (hk' : Keeps [] w w') => del190_own w' B M es.length _ es (hk'.owns hes (fun _ _ => List.not_mem_nil)) hMl (Nat.le_refl _))
  rw [hcl] at hdl
  have HH := hide h
  clear h hMe hcl hes
  obtain ⟨E2, hE2⟩ : ∃ E2, es.take 20 = E2 := ⟨_, rfl⟩
  rw [hE2] at hdl ⊢
  clear hE2
  go_enter Tryz.func119, Tryz.ntmps119
  go_region_law (refine step_call rfl 190 _ _ rfl enters190 #[.slice eo es.length ec, .int .i64 M, .int .i64 es.length] (by first | (simp [Act.eval]; done) | (simp [Act.eval, Act.put]; done)) (hdl.out _ ((Keeps.refl [] w).drew)) ?_; rintro e w7 ⟨v7, rfl, ho7, hk7, hw7⟩; obtain ⟨o7, c7, rfl⟩ := row_form ho7; refine ⟨_, rfl, ?_⟩; have hb7 := (hk7.block k HH.out.lt (fun hm9 => block_ne HH.out.es HH.out.blk (by decide) (by simpa using hm9))).trans HH.out.blk; have x7 := cell_blk hb7 0; have y7 := free_blk hb7 0; simp at x7)
  all_goals go_wp2_with fail
  all_goals go_end0
  all_goals
    have hfin := kp_set0 (es' := E2) (HH.out.keepsNil ((Keeps.refl [] w).drew)) hk7 ho7 (.inl hw7)
    exact ⟨rfl, _, hfin.1, (Stp.nil ((Keeps.refl [] w).drew) _).trans hfin.2⟩
end Go.Proofs.YtlcljanibjdejaaGreat
namespace Go.Proofs.YtlcljanibjdejaaGreat
open Go.RowKit Go.Maps
/-- Is an entry just so? -/
def eqE (x y : En) : Bool := decide (x.id = y.id) && (decide (x.title = y.title) && (decide (x.link = y.link) && (decide (x.tm = y.tm) && decide (x.html = y.html))))
theorem eqE_iff (x y : En) : eqE x y = true ↔ x = y := by
  obtain ⟨a, b, c, d, e⟩ := x
  obtain ⟨a', b', c', d', e'⟩ := y
  simp [eqE]
theorem eqE_self (x : En) : eqE x x = true := (eqE_iff x x).2 rfl
theorem eqEn (x y : En) (w : World) : (binOp .eql 75 (.agg #[.string ⟨x.id.toArray⟩, .string ⟨x.title.toArray⟩, .string ⟨x.link.toArray⟩, .int .i64 x.tm, .string ⟨x.html.toArray⟩]) (.agg #[.string ⟨y.id.toArray⟩, .string ⟨y.title.toArray⟩, .string ⟨y.link.toArray⟩, .int .i64 y.tm, .string ⟨y.html.toArray⟩])).run Tryz.prog w = .ok (.bool (eqE x y)) w := by
  have u9 := Tryz.underlying9
  have u3 := Tryz.underlying3
  have hS : Tryz.prog.underlying 75 = some (.struct (Tryz.prog.fieldsOf 75)) := by kernel_rfl
  have hp : Tryz.prog.stoodInHeld 75 = false := by kernel_rfl
  rw [run_eql_struct, show (10000 : Nat) = 9999 + 1 from rfl, run_equalIn_agg w 9999 75 _ _ hS hp]
  simp only [Program.fieldsOf, Tryz.underlying75]
  go_simp
  unfold eqE
  by_cases h1 : x.id = y.id <;> by_cases h2 : x.title = y.title <;> by_cases h3 : x.link = y.link <;> by_cases h4 : x.tm = y.tm <;> by_cases h5 : x.html = y.html <;> simp [h1, h2, h3, h4, h5]
theorem neqEn (x y : En) (w : World) : (binOp .neq 75 (.agg #[.string ⟨x.id.toArray⟩, .string ⟨x.title.toArray⟩, .string ⟨x.link.toArray⟩, .int .i64 x.tm, .string ⟨x.html.toArray⟩]) (.agg #[.string ⟨y.id.toArray⟩, .string ⟨y.title.toArray⟩, .string ⟨y.link.toArray⟩, .int .i64 y.tm, .string ⟨y.html.toArray⟩])).run Tryz.prog w = .ok (.bool (!eqE x y)) w := by
  have u9 := Tryz.underlying9
  have u3 := Tryz.underlying3
  have hS : Tryz.prog.underlying 75 = some (.struct (Tryz.prog.fieldsOf 75)) := by kernel_rfl
  have hp : Tryz.prog.stoodInHeld 75 = false := by kernel_rfl
  rw [run_neq_struct, show (10000 : Nat) = 9999 + 1 from rfl, run_equalIn_agg w 9999 75 _ _ hS hp]
  simp only [Program.fieldsOf, Tryz.underlying75]
  go_simp
  unfold eqE
  by_cases h1 : x.id = y.id <;> by_cases h2 : x.title = y.title <;> by_cases h3 : x.link = y.link <;> by_cases h4 : x.tm = y.tm <;> by_cases h5 : x.html = y.html <;> simp [h1, h2, h3, h4, h5]
def hasE (l : List En) (x : En) : Bool := l.any (eqE x)
theorem hasE_iff (l : List En) (x : En) : hasE l x = true ↔ x ∈ l := by
  unfold hasE
  rw [List.any_eq_true]
  constructor
  · rintro ⟨y, hy, h⟩
    rw [(eqE_iff x y).1 h]
    exact hy
  · intro h
    exact ⟨x, h, eqE_self x⟩
def idxQ (x : En) : List En → Nat → Int
  | [], _ => -1
  | y :: r, k => if eqE x y = true then (k : Int) else idxQ x r (k + 1)
theorem idxQ_drop (x : En) (l : List En) (k : Nat) (hk : k < l.length) : idxQ x (l.drop k) k = if eqE x l[k] = true then (k : Int) else idxQ x (l.drop (k + 1)) (k + 1) := by
  rw [List.drop_eq_getElem_cons hk]
  rfl
theorem idxQ_has (x : En) : ∀ (l : List En) (k : Nat), decide ((0 : Int) ≤ idxQ x l k) = hasE l x
  | [], k => by simp [idxQ, hasE]
  | y :: r, k => by
    have ih := idxQ_has x r (k + 1)
    unfold idxQ
    unfold hasE at ih ⊢
    rw [List.any_cons]
    by_cases h : eqE x y = true
    · simp [h]
    · rw [if_neg h, ih]; simp [h]
set_option maxRecDepth 8000 in
set_option maxHeartbeats 8000000 in
theorem index270_any (x : En) (w : World) (v : Value) (l : List En) (hv : Lies w v l.length 5 (ensCells l)) :
    Calls Tryz.prog 270 #[v, .agg (enCells x).toArray] w fun e w' => e = .returned (.int .i64 (idxQ x l 0)) ∧ Keeps [] w w' := by
  obtain ⟨o, c, rfl, h1, h2⟩ := hv.form
  unfold maxLen at h2
  obtain ⟨R, hR⟩ : ∃ R, idxQ x l 0 = R := ⟨_, rfl⟩
  rw [hR]
  obtain ⟨W, hW⟩ : ∃ W, w.alloc (.cells (enCells x).toArray 75) = W := ⟨_, rfl⟩
  have hkW : Keeps [] w W := by rw [← hW]; exact (Keeps.refl [] w).alloc _
  have hb := (nblk_new rfl hW).1
  have b0 : W.cell? ⟨w.heap.size, 0, none⟩ = some (.string ⟨x.id.toArray⟩) := cell_blk hb 0
  have b1 : W.cell? ⟨w.heap.size, 1, none⟩ = some (.string ⟨x.title.toArray⟩) := cell_blk hb 1
  have b2 : W.cell? ⟨w.heap.size, 2, none⟩ = some (.string ⟨x.link.toArray⟩) := cell_blk hb 2
  have b3 : W.cell? ⟨w.heap.size, 3, none⟩ = some (.int .i64 x.tm) := cell_blk hb 3
  have b4 : W.cell? ⟨w.heap.size, 4, none⟩ = some (.string ⟨x.html.toArray⟩) := cell_blk hb 4
  have hvW := hv.keeps hkW
  have HR := hide hR
  have HKW := hide hkW
  have HW := hide hW
  clear hR hv hkW hb hW
  go_enter Tryz.func270, Tryz.ntmps270
  go_upto_region 1 with fail
  rw [HW.out]
  go_wp2_with fail
  go_loopw [8] (fun i wr => ∃ k m : Nat, k ≤ l.length ∧ i = .int .i64 k ∧ wr = W.drewN m ∧ Hid (idxQ x (l.drop k) k = R)) (fun i _ => l.length - (intOf i).toNat)
  case atStart => exact ⟨0, 0, Nat.zero_le _, rfl, rfl, HR⟩
  case round =>
    obtain ⟨k, m, hk, rfl, rfl, hC⟩ := hrel
    clear HR
    by_cases hlt : k < l.length
    · have hC1 := hC.out
      rw [idxQ_drop x l k hlt] at hC1
      obtain ⟨g, o0, rfl, hc⟩ := hvW.addr (by omega)
      obtain ⟨a0, a1, a2, a3, a4⟩ := lies_en hc k hlt
      have heq := fun w => eqEn x l[k] w
      have hgd : Tryz.prog.eqGuardType Tryz.prog.depth 75 = false := by kernel_rfl
      have HC1 := hide hC1
      clear hC hC1 hc
      generalize l[k] = y at *
      obtain ⟨Q, hQ⟩ : ∃ Q, eqE x y = Q := ⟨_, rfl⟩
      rw [hQ] at HC1
      simp only [hQ] at heq
      clear hQ
      cases Q
      · have HC2 : Hid (idxQ x (l.drop (k + 1)) (k + 1) = R) := hide (by have := HC1.out; simpa using this)
        clear HC1
        go_wp2_with fail
        go_quiet (fail)
        go_wp2_with fail
        go_roundw
        case rel => exact ⟨k + 1, _, by omega, by go_num, rfl, HC2⟩
        case measure => simp [intOf]; omega
      · have hRk : R = (k : Int) := by rw [← HC1.out]; simp
        subst hRk
        clear HC1
        go_wp2_with fail
        go_quiet (fail)
        go_wp2_with fail
        go_ret
        exact ⟨rfl, (HKW.out.drewN _).drewN _⟩
    · have hRR : R = -1 := by
        rw [← hC.out, List.drop_eq_nil_of_le (by omega)]
        rfl
      subst hRR
      go_wp2_with fail
      go_ret
      exact ⟨rfl, HKW.out.drewN _⟩
set_option maxRecDepth 4000 in
set_option maxHeartbeats 4000000 in
theorem contains194_any (x : En) (w : World) (v : Value) (l : List En) (hv : Lies w v l.length 5 (ensCells l)) :
    Calls Tryz.prog 194 #[v, .agg (enCells x).toArray] w fun e w' => e = .returned (.bool (hasE l x)) ∧ Keeps [] w w' := by
  obtain ⟨o, c, rfl, h1, h2⟩ := hv.form
  obtain ⟨W, hW⟩ : ∃ W, w.alloc (.cells (enCells x).toArray 75) = W := ⟨_, rfl⟩
  have hkW : Keeps [] w W := by rw [← hW]; exact (Keeps.refl [] w).alloc _
  have hb := (nblk_new rfl hW).1
  have b0 : W.cell? ⟨w.heap.size, 0, none⟩ = some (.string ⟨x.id.toArray⟩) := cell_blk hb 0
  have b1 : W.cell? ⟨w.heap.size, 1, none⟩ = some (.string ⟨x.title.toArray⟩) := cell_blk hb 1
  have b2 : W.cell? ⟨w.heap.size, 2, none⟩ = some (.string ⟨x.link.toArray⟩) := cell_blk hb 2
  have b3 : W.cell? ⟨w.heap.size, 3, none⟩ = some (.int .i64 x.tm) := cell_blk hb 3
  have b4 : W.cell? ⟨w.heap.size, 4, none⟩ = some (.string ⟨x.html.toArray⟩) := cell_blk hb 4
  have hix := hide (index270_any x W _ l (hv.keeps hkW))
  have hd := idxQ_has x l 0
  unfold enCells at hix
  have HKW := hide hkW
  have HW := hide hW
  generalize idxQ x l 0 = R at *
  generalize hasE l x = Q at *
  clear hv hkW hb hW
  go_enter Tryz.func194, Tryz.ntmps194
  go_upto_region 1 with fail
  rw [HW.out]
  go_wp2_with fail
  refine hix.out.mono ?_
  rintro e w1 ⟨rfl, hk1⟩
  go_wp2_with fail
  go_ret
  exact ⟨rfl, HKW.out.trans hk1⟩
def othersN (es were : List En) : Nat := (es.filter fun x => !hasE were x).length
theorem othersN_take (es were : List En) (k : Nat) (hk : k < es.length) : othersN (es.take (k + 1)) were = othersN (es.take k) were + if hasE were es[k] = true then 0 else 1 := by
  unfold othersN
  rw [List.take_succ_eq_append_getElem hk, List.filter_append, List.length_append]
  congr 1
  by_cases h : hasE were es[k] = true
  · simp [h]
  · simp [h]
theorem othersN_le (es were : List En) : othersN es were ≤ es.length := List.length_filter_le _ _
set_option maxRecDepth 8000 in
set_option maxHeartbeats 8000000 in
theorem others_kp (w : World) (B k : Nat) (ev rv : Value) (es were : List En) (rd : List (List UInt8)) (v : Value) (h : IsKp w B k ev rv ⟨es, rd⟩) (hv : Lies w v were.length 5 (ensCells were)) (hl : es.length ≤ 1000) :
    Calls Tryz.prog 120 #[.pointer (some ⟨k, 0, none⟩), v] w fun e w' => e = .returned (.int .i64 (othersN es were)) ∧ Keeps [] w w' := by
  obtain ⟨o, c, rfl, h1, h2⟩ := hv.form
  have hes := h.es
  simp only at hes
  obtain ⟨eo, ec, rfl⟩ := row_form hes
  have c0 := cell_blk h.blk 0
  simp at c0
  have hls := Lies.of_row hes
  obtain ⟨_, _, e9, g1, g2⟩ := hls.form
  injection e9 with e91 e92 e93
  subst e91 e93
  unfold maxLen at g2
  have HLS := hide hls
  have HV := hide hv
  obtain ⟨RR, hRR⟩ : ∃ R, othersN es were = R := ⟨_, rfl⟩
  rw [hRR]
  have HRR := hide hRR
  clear h hes hls hv e92 hRR
  go_enter Tryz.func120, Tryz.ntmps120
  go_wp2_with fail
  go_loopw [5, 14] (fun n i wr => ∃ j : Nat, j ≤ es.length ∧ i = .int .i64 j ∧ n = .int .i64 (othersN (es.take j) were) ∧ Keeps [] w wr) (fun _ i _ => es.length - (intOf i).toNat)
  case atStart => exact ⟨0, Nat.zero_le _, rfl, rfl, Keeps.refl _ _⟩
  case round =>
    obtain ⟨j, hj, rfl, rfl, hkw⟩ := hrel
    by_cases hlt : j < es.length
    · have hH := othersN_take es were j hlt
      have hHl := othersN_le (es.take j) were
      rw [List.length_take] at hHl
      obtain ⟨g, o0, rfl, hc⟩ := (HLS.out.keeps hkw).addr (by omega)
      obtain ⟨a0, a1, a2, a3, a4⟩ := lies_en hc j hlt
      have HH := hide hH
      clear hc hH
      generalize othersN (es.take j) were = cnt at *
      have hcall := hide (fun w1 (hk1 : Keeps [] w w1) => contains194_any es[j] w1 _ were (HV.out.keeps hk1))
      unfold enCells at hcall
      generalize es[j] = x at *
      obtain ⟨WE, hWE⟩ : ∃ WE, wr.alloc (.cells #[.string ⟨x.id.toArray⟩, .string ⟨x.title.toArray⟩, .string ⟨x.link.toArray⟩, .int .i64 x.tm, .string ⟨x.html.toArray⟩] 75) = WE := ⟨_, rfl⟩
      have hkN : Keeps [] wr WE := by rw [← hWE]; exact (Keeps.refl [] wr).alloc _
      have hbx := (nblk_new rfl hWE).1
      have HKR := hide (hkw.trans hkN)
      have HWE := hide hWE
      have d0 : WE.cell? ⟨wr.heap.size, 0, none⟩ = some (.string ⟨x.id.toArray⟩) := cell_blk hbx 0
      have d1 : WE.cell? ⟨wr.heap.size, 1, none⟩ = some (.string ⟨x.title.toArray⟩) := cell_blk hbx 1
      have d2 : WE.cell? ⟨wr.heap.size, 2, none⟩ = some (.string ⟨x.link.toArray⟩) := cell_blk hbx 2
      have d3 : WE.cell? ⟨wr.heap.size, 3, none⟩ = some (.int .i64 x.tm) := cell_blk hbx 3
      have d4 : WE.cell? ⟨wr.heap.size, 4, none⟩ = some (.string ⟨x.html.toArray⟩) := cell_blk hbx 4
      clear hkN hWE hbx hkw
      obtain ⟨Q, hQ⟩ : ∃ Q, hasE were x = Q := ⟨_, rfl⟩
      rw [hQ] at HH
      simp only [hQ] at hcall
      clear hQ
      cases Q
      · have HH2 : Hid (othersN (es.take (j + 1)) were = cnt + 1) := hide (by have := HH.out; simpa using this)
        clear HH
        go_upto_region 5 with fail
        rw [HWE.out]
        go_wp2_with fail
        refine (hcall.out WE HKR.out).mono ?_
        rintro e w3 ⟨rfl, hk3⟩
        have HK3 := hide (HKR.out.trans hk3)
        clear hk3 d0 d1 d2 d3 d4 a0 a1 a2 a3 a4 c0
        go_wp2_with fail
        go_roundw
        case rel => exact ⟨j + 1, by omega, by go_num, by rw [HH2.out]; go_num, HK3.out⟩
        case measure => simp [intOf]; omega
      · have HH2 : Hid (othersN (es.take (j + 1)) were = cnt) := hide (by have := HH.out; simpa using this)
        clear HH
        go_upto_region 5 with fail
        rw [HWE.out]
        go_wp2_with fail
        refine (hcall.out WE HKR.out).mono ?_
        rintro e w3 ⟨rfl, hk3⟩
        have HK3 := hide (HKR.out.trans hk3)
        clear hk3 d0 d1 d2 d3 d4 a0 a1 a2 a3 a4 c0
        go_wp2_with fail
        go_roundw
        case rel => exact ⟨j + 1, by omega, by go_num, by rw [HH2.out], HK3.out⟩
        case measure => simp [intOf]; omega
    · have hke : es.take j = es := List.take_of_length_le (by omega)
      rw [hke, HRR.out]
      go_wp2_with fail
      go_ret
      exact ⟨rfl, hkw⟩
end Go.Proofs.YtlcljanibjdejaaGreat
namespace Go.Proofs.YtlcljanibjdejaaGreat
open Go.RowKit Go.Maps
theorem chkEs_right : ∀ (l : List En) (p : Option En) (met : List (List UInt8)), chkEs p met l = 0 → (∀ y, p = some y → y.id ∈ met) → OnceE l ∧ (∀ x ∈ l, x.id ∉ met) ∧ SortedE (p.toList ++ l)
  | [], p, met, _, _ => by
    refine ⟨List.Pairwise.nil, by simp, ?_⟩
    cases p <;> simp [SortedE]
  | x :: r, p, met, h, hp => by
    unfold chkEs at h
    split at h
    · rename_i h1; exact absurd h h1
    · split at h
      · simp at h
      · rename_i hm
        split at h
        · simp at h
        · rename_i hb
          obtain ⟨h1, h2, h3⟩ := chkEs_right r (some x) (met ++ [x.id]) h (by intro y hy; cases hy; simp)
          refine ⟨List.pairwise_cons.2 ⟨fun z hz e => h2 z hz (by simp [e]), h1⟩, ?_, ?_⟩
          · intro z hz
            rcases List.mem_cons.1 hz with rfl | hz
            · exact hm
            · exact fun hh => h2 z hz (by simp [hh])
          · cases p with
            | none => simpa using h3
            | some y =>
              simp only [Option.toList_some, List.cons_append, List.nil_append] at h3 ⊢
              have hyx : aheadE y x = true := by
                rcases aheadE_total y x with ⟨_, e⟩ | h | h
                · exact absurd (e ▸ hp y rfl) hm
                · exact h
                · have := (ordE_pos y x).2 h
                  simp [backE, this] at hb
              refine List.pairwise_cons.2 ⟨fun z hz => ?_, h3⟩
              rcases List.mem_cons.1 hz with rfl | hz
              · exact hyx
              · exact aheadE_trans hyx ((List.pairwise_cons.1 h3).1 z hz)
theorem chkSh_right {s : Sh} (h : chkSh s = 0) : SortedE s.es ∧ OnceE s.es := by
  obtain ⟨_, _, h3, _⟩ := chkSh_parts h
  obtain ⟨h1, _, h2⟩ := chkEs_right s.es none [] h3 (by simp)
  exact ⟨by simpa using h2, h1⟩
theorem chkRead_right : ∀ (l : List (List UInt8)) (p : Option (List UInt8)), chkRead p l = 0 → SortedI (p.toList ++ l)
  | [], p, _ => by cases p <;> simp [SortedI]
  | x :: r, p, h => by
    unfold chkRead at h
    split at h
    · simp at h
    · split at h
      · simp at h
      · split at h
        · simp at h
        · rename_i hb
          have h3 := chkRead_right r (some x) h
          cases p with
          | none => simpa using h3
          | some y =>
            simp only [Option.toList_some, List.cons_append, List.nil_append] at h3 ⊢
            have hyx : lessL y x = true := by simpa [notUp] using hb
            refine List.pairwise_cons.2 ⟨fun z hz => ?_, h3⟩
            rcases List.mem_cons.1 hz with rfl | hz
            · exact hyx
            · exact lessL_trans _ _ _ hyx ((List.pairwise_cons.1 h3).1 z hz)
theorem chkSh_read {s : Sh} (h : chkSh s = 0) : SortedI s.rd := by
  obtain ⟨_, _, _, h4⟩ := chkSh_parts h
  simpa using chkRead_right s.rd none h4
theorem putE_len (l : List En) (x : En) : (putE l x).length ≤ l.length + 1 := by
  unfold putE
  split
  · rw [insE_len]; exact Nat.le_refl _
  · split
    · omega
    · rw [insE_len]
      have := List.length_filter_le (fun z : En => !(z.id == x.id)) l
      omega
theorem putsE_len (m : List En) : ∀ (l : List En), (putsE l m).length ≤ l.length + m.length := by
  unfold putsE
  induction m with
  | nil => intro l; simp
  | cons x m ih =>
    intro l
    have h1 := ih (putE l x)
    have h2 := putE_len l x
    simp only [List.foldl_cons, List.length_cons]
    omega
theorem putsE_take (l m : List En) (k : Nat) (hk : k < m.length) : putsE l (m.take (k + 1)) = putE (putsE l (m.take k)) m[k] := by
  unfold putsE
  rw [List.take_succ_eq_append_getElem hk, List.foldl_append]
  rfl
theorem own_base {w : World} {B B' : Nat} {e : TypeId} {z : Nat} {v : Value} {n : Nat} {xs : List Value} (h : w.ownsRow B e z v n xs) (hB : B' ≤ B) : w.ownsRow B' e z v n xs := by
  refine ⟨h.1, ?_⟩
  rcases h.2 with h1 | ⟨g, cap, cur, e1, h2, h3⟩
  · exact .inl h1
  · exact .inr ⟨g, cap, cur, e1, Nat.le_trans hB h2, h3⟩
end Go.Proofs.YtlcljanibjdejaaGreat
namespace Go.Proofs.YtlcljanibjdejaaGreat
open Go.RowKit Go.Maps
theorem results_row2 {P : Program} {fn : Func} {p u : Tmp} {ty : TypeId} (h : fn.results = #[.cell p ty, .tmp u]) (tmps : Array Value) (w : World) (g : Nat) (t : TypeId) (cs : Array Value) (fr : Nat × Nat) (d : TypeDesc)
    (hp : tmps.getD p undef = .pointer (some ⟨g, 0, none⟩)) (hg : w.heap[g]? = some (.cells cs t fr))
    (hu : P.underlying ty = some d) (hd : (match d with | .struct _ | .array _ _ => true | _ => false) = true) (hi : (P.info? ty).map (·.size) = some cs.size) :
    (results fn tmps).run P w = .ok (.tuple #[.agg cs, tmps.getD u undef]) w := by
  have hp' : tmps[p]?.getD undef = .pointer (some ⟨g, 0, none⟩) := by simpa using hp
  simp [results, h, hp', asAddr, run_loadVar_row w g t ty cs fr d hg hu hd hi]
theorem results_row3 {P : Program} {fn : Func} {p u v : Tmp} {ty : TypeId} (h : fn.results = #[.cell p ty, .tmp u, .tmp v]) (tmps : Array Value) (w : World) (g : Nat) (t : TypeId) (cs : Array Value) (fr : Nat × Nat) (d : TypeDesc)
    (hp : tmps.getD p undef = .pointer (some ⟨g, 0, none⟩)) (hg : w.heap[g]? = some (.cells cs t fr))
    (hu : P.underlying ty = some d) (hd : (match d with | .struct _ | .array _ _ => true | _ => false) = true) (hi : (P.info? ty).map (·.size) = some cs.size) :
    (results fn tmps).run P w = .ok (.tuple #[.agg cs, tmps.getD u undef, tmps.getD v undef]) w := by
  have hp' : tmps[p]?.getD undef = .pointer (some ⟨g, 0, none⟩) := by simpa using hp
  simp [results, h, hp', asAddr, run_loadVar_row w g t ty cs fr d hg hu hd hi]
theorem set2_blk {W : World} {nb : Nat} {u0 u1 : Value} {t : TypeId} (v0 v1 : Value) (h : W.heap[nb]? = some (.cells #[u0, u1] t (0, 0))) :
    ((W.setCell ⟨nb, 0, none⟩ v0).setCell ⟨nb, 1, none⟩ v1).heap[nb]? = some (.cells #[v0, v1] t (0, 0)) := by
  simp [World.setCell, Array.getElem?_modify, h]
theorem set2_keeps (W : World) (nb : Nat) (v0 v1 : Value) : Keeps [nb] W ((W.setCell ⟨nb, 0, none⟩ v0).setCell ⟨nb, 1, none⟩ v1) :=
  ((Keeps.refl [nb] W).setCell (.inl (by simp)) _).setCell (.inl (by simp)) _
/-- What Put answers beside a shelf. -/
def chkPut (s : Sh) (l : List En) : Int := if chkSh s ≠ 0 then chkSh s else if 12 < l.length then 2 else chkComing l
theorem chkPut_zero {s : Sh} {l : List En} (h : chkPut s l = 0) : chkSh s = 0 ∧ l.length ≤ 12 ∧ chkComing l = 0 := by
  unfold chkPut at h
  split at h
  · rename_i h1; exact absurd h h1
  · rename_i h1
    split at h
    · simp at h
    · exact ⟨by simpa using h1, by omega, h⟩
theorem enters120 : Enters 120 := enters_of Tryz.func120 (by kernel_rfl) (by kernel_rfl)
/-- A shelf by value, whose rows are one's own. -/
def OwnSh (w : World) (B : Nat) (ev rv : Value) (s : Sh) : Prop := w.ownsRow B 75 5 ev s.es.length (ensCells s.es) ∧ w.ownsRow B 9 1 rv s.rd.length (idCs s.rd)
set_option maxRecDepth 8000 in
set_option maxHeartbeats 16000000 in
theorem put41_good (w : World) (ev rv v : Value) (s : Sh) (l : List En) (he : Lies w ev s.es.length 5 (ensCells s.es)) (hr : Lies w rv s.rd.length 1 (idCs s.rd)) (hv : Lies w v l.length 5 (ensCells l)) (hf : ∀ x ∈ s.es, FitE x) (hfl : ∀ x ∈ l, FitE x) (hM : HasMax w) (h0 : chkPut s l = 0) :
    Calls Tryz.prog 41 #[.agg #[ev, rv], v] w fun e w' => ∃ ev' rv', e = .returned (.tuple #[.agg #[ev', rv'], .int .i64 (othersN (shelved s.es l) s.es), .int .i64 0]) ∧ OwnSh w' w.heap.size ev' rv' ⟨shelved s.es l, s.rd⟩ ∧ Keeps [] w w' := by
  obtain ⟨hc1, hc2, hc3⟩ := chkPut_zero h0
  obtain ⟨hso, hon⟩ := chkSh_right hc1
  obtain ⟨hp1, _, _, _⟩ := chkSh_parts hc1
  obtain ⟨RN, hRN⟩ : ∃ R, othersN (shelved s.es l) s.es = R := ⟨_, rfl⟩
  rw [hRN]
  have HRN := hide hRN
  obtain ⟨es, rd⟩ := s
  simp only at he hr hf
  obtain ⟨eo, ec, rfl, g1, g2⟩ := he.form
  obtain ⟨ro, rc, rfl, g3, g4⟩ := hr.form
  obtain ⟨lo, lc, rfl, g5, g6⟩ := hv.form
  have nn : ∀ g, g ∉ ([] : List Nat) := fun _ => List.not_mem_nil
  obtain ⟨W, hW⟩ : ∃ W, (w.alloc (.cells #[.slice eo es.length ec, .slice ro rd.length rc] 64)).alloc (.cells #[.slice none 0 0, .slice none 0 0] 64) = W := ⟨_, rfl⟩
  have hkW : Keeps [] w W := by rw [← hW]; exact ((Keeps.refl [] w).alloc _).alloc _
  have hb0 : W.heap[w.heap.size]? = some (.cells #[.slice eo es.length ec, .slice ro rd.length rc] 64 (0, 0)) := by rw [← hW]; exact two_fst w _ _
  have hb1 : W.heap[w.heap.size + 1]? = some (.cells #[.slice none 0 0, .slice none 0 0] 64 (0, 0)) := by rw [← hW]; exact two_snd w _ _
  have b0 : W.cell? ⟨w.heap.size, 0, none⟩ = some (.slice eo es.length ec) := cell_blk hb0 0
  have b1 : W.cell? ⟨w.heap.size, 1, none⟩ = some (.slice ro rd.length rc) := cell_blk hb0 1
  have HB0 := hide hb0
  have HB1 := hide hb1
  have HKW := hide hkW
  have HW := hide hW
  unfold maxLen at g2 g4 g6
  have hkp := hide (keep_good W _ _ ⟨es, rd⟩ (he.keeps hkW) (hr.keeps hkW) hf (hM.keeps hkW (nn _)) hc1)
  have hcm := hide (fun w1 (hk : Keeps [] w w1) => checkComing_any w1 _ l (hv.keeps hk) hfl (hM.keeps hk (nn _)))
  rw [if_neg (by omega), hc3] at hcm
  have hother := hide (fun (w1 : World) (hk : Keeps [] w w1) (k : Nat) (ev1 rv1 : Value) (h : IsKp w1 W.heap.size k ev1 rv1 ⟨shelved es l, rd⟩) => others_kp w1 W.heap.size k ev1 rv1 (shelved es l) es rd _ h (he.keeps hk) (Nat.le_trans (shelved_right (l := es) (m := l) hso hon).2.2 (by omega)))
  simp only at HRN hp1
  rw [HRN.out] at hother
  have HV := hide hv
  have HSO := hide hso
  have HON := hide hon
  clear he hr hv hf hfl hM h0 hc1 hc3 hkW hb0 hb1 hW hso hon hRN
  go_enter Tryz.func41, Tryz.ntmps41
  go_upto_region 1 with fail
  rw [HW.out]
  go_wp2_with fail
  refine hkp.out.mono ?_
  rintro e w1 ⟨k, ev1, rv1, rfl, hkp1, hk1⟩
  have HK1 := hide (HKW.out.trans hk1)
  have HKP1 := hide hkp1
  have HB01 := hide ((hk1.block _ (lt_of_block HB0.out) List.not_mem_nil).trans HB0.out)
  have HB11 := hide ((hk1.block _ (lt_of_block HB1.out) List.not_mem_nil).trans HB1.out)
  have hkW1 := hk1
  have HKW1 := hide hkW1
  clear hkp1 hk1 hkW1 b0 b1 hkp
  go_wp2_with fail
  refine (hcm.out w1 HK1.out).mono ?_
  rintro e w2 ⟨rfl, hk2⟩
  have HK2 := hide (HKW1.out.trans hk2)
  have HKP2 := hide (HKP1.out.keepsNil hk2)
  clear hk2
  go_wp2_with fail
  go_loopw [26] (fun i wr => ∃ (j : Nat) (ev' : Value), j ≤ l.length ∧ i = .int .i64 j ∧ IsKp wr W.heap.size k ev' rv1 ⟨putsE es (l.take j), rd⟩ ∧ Keeps [] W wr) (fun i _ => l.length - (intOf i).toNat)
  case atStart => exact ⟨0, _, Nat.zero_le _, rfl, HKP2.out, HK2.out⟩
  case round =>
    obtain ⟨j, ev', hj, rfl, hkpr, hkw⟩ := hrel
    by_cases hlt : j < l.length
    · have hstep := putsE_take es l j hlt
      obtain ⟨hs1, ho1⟩ := putsE_right (l.take j) es HSO.out HON.out
      have hln := putsE_len (l.take j) es
      rw [List.length_take] at hln
      obtain ⟨g, o0, rfl, hc⟩ := (HV.out.keeps (HKW.out.trans hkw)).addr (by omega)
      obtain ⟨a0, a1, a2, a3, a4⟩ := lies_en hc j hlt
      have HST := hide hstep
      clear hc hstep
      generalize putsE es (l.take j) = E1 at *
      generalize l[j] = x at *
      obtain ⟨WE, hWE⟩ : ∃ WE, wr.alloc (.cells #[.string ⟨x.id.toArray⟩, .string ⟨x.title.toArray⟩, .string ⟨x.link.toArray⟩, .int .i64 x.tm, .string ⟨x.html.toArray⟩] 75) = WE := ⟨_, rfl⟩
      have hkN : Keeps [] wr WE := by rw [← hWE]; exact (Keeps.refl [] wr).alloc _
      have hbx := (nblk_new rfl hWE).1
      have HKR := hide (hkw.trans hkN)
      have HWE := hide hWE
      have d0 : WE.cell? ⟨wr.heap.size, 0, none⟩ = some (.string ⟨x.id.toArray⟩) := cell_blk hbx 0
      have d1 : WE.cell? ⟨wr.heap.size, 1, none⟩ = some (.string ⟨x.title.toArray⟩) := cell_blk hbx 1
      have d2 : WE.cell? ⟨wr.heap.size, 2, none⟩ = some (.string ⟨x.link.toArray⟩) := cell_blk hbx 2
      have d3 : WE.cell? ⟨wr.heap.size, 3, none⟩ = some (.int .i64 x.tm) := cell_blk hbx 3
      have d4 : WE.cell? ⟨wr.heap.size, 4, none⟩ = some (.string ⟨x.html.toArray⟩) := cell_blk hbx 4
      have hkpE := hkpr.keepsNil hkN
      have hge := hkpE.ge
      have hput := hide (put_kp WE W.heap.size k ev' rv1 E1 rd x hkpE hs1 ho1 (by omega))
      unfold enCells at hput
      have HGE := hide hge
      clear hkN hWE hbx hkw hkpr hkpE hge hs1 ho1
      go_upto_region 9 with fail
      rw [HWE.out]
      go_wp2_with fail
      refine hput.out.mono ?_
      rintro e w3 ⟨rfl, ev3, hkp3, hst3⟩
      have HK3 := hide ((HKR.out.up.trans hst3.1).mono (T := []) (fun g hg hlt => by have := (HGE.out g hg).1; omega))
      have HKP3 := hide hkp3
      clear hst3 hkp3 d0 d1 d2 d3 d4 a0 a1 a2 a3 a4
      go_wp2_with fail
      go_roundw
      case rel => exact ⟨j + 1, ev3, by omega, by go_num, by rw [HST.out]; exact HKP3.out, HK3.out⟩
      case measure => simp [intOf]; omega
    · have hke : l.take j = l := List.take_of_length_le (by omega)
      rw [hke] at hkpr
      have hln := putsE_len l es
      have hcut := hide (cut_kp wr W.heap.size k ev' rv1 (putsE es l) rd hkpr (by omega))
      rw [show (putsE es l).take 20 = shelved es l from rfl] at hcut
      have hge := hkpr.ge
      go_wp2_with fail
      refine hcut.out.mono ?_
      rintro e w3 ⟨rfl, ev3, hkp3, hst3⟩
      have hk3 := ((hkw.up.trans hst3.1).mono (T := []) (fun g hg hlt => by have := (hge g hg).1; omega))
      have hb03 := (hk3.block _ (lt_of_block HB0.out) List.not_mem_nil).trans HB0.out
      have hb13 := (hk3.block _ (lt_of_block HB1.out) List.not_mem_nil).trans HB1.out
      have hot := hide (fun w4 (hk4 : Keeps [] w3 w4) => hother.out w4 (HKW.out.trans (hk3.trans hk4)) k ev3 rv1 (hkp3.keepsNil hk4))
      obtain ⟨o3, c3, hv3⟩ := row_form hkp3.es
      obtain ⟨o4, c4, hv4⟩ := row_form hkp3.rd
      subst hv3 hv4
      have x0 := cell_blk hkp3.blk 0
      have x1 := cell_blk hkp3.blk 1
      simp at x0 x1
      have y0 := cell_blk hb03 0
      simp at y0
      have HKP3 := hide hkp3
      have HK3 := hide hk3
      have HB13 := hide hb13
      have hkB := hkp3.hb
      have hBl := lt_of_block HB1.out
      clear hst3 hkp3 hkpr hcut hge hkw hk3 hb03 hb13 hother hke hln
      go_upto_region 12 with fail
      go_region_law (refine step_call rfl 120 _ _ rfl enters120 #[.pointer (some ⟨k, 0, none⟩), .slice eo es.length ec] (by first | (simp [Act.eval]; done) | (simp [Act.eval, Act.put]; done)) (hot.out _ (by first | exact Keeps.refl _ _ | exact (Keeps.refl _ _).drew)) ?_; rintro e w7 ⟨rfl, hk7⟩; refine ⟨_, rfl, ?_⟩; have hk37 : Keeps [] w3 w7 := (by first | exact hk7 | exact ((Keeps.refl _ _).drew).trans hk7); have hb17 := (hk37.block _ (lt_of_block HB13.out) List.not_mem_nil).trans HB13.out; have z0 := cell_blk hb17 0; have z1 := cell_blk hb17 1; have q0 := free_blk hb17 0; have q1 := free_blk hb17 1; have x07 := cell_keeps hk37 x0; have x17 := cell_keeps hk37 x1; simp at z0 z1)
      all_goals go_wp2_with fail
      all_goals
        have hkp9 := HKP3.out.keepsNil hk37
        have hks := set2_keeps w7 (w.heap.size + 1) (.slice o3 (shelved es l).length c3) (.slice o4 rd.length c4)
        have hne : ∀ g, g ∈ tK k (Value.slice o3 (shelved es l).length c3) (Value.slice o4 rd.length c4) → g ≠ w.heap.size + 1 := fun g hg => by have := (hkp9.ge g hg).1; omega
        have hown : OwnSh ((w7.setCell ⟨w.heap.size + 1, 0, none⟩ (.slice o3 (shelved es l).length c3)).setCell ⟨w.heap.size + 1, 1, none⟩ (.slice o4 rd.length c4)) w.heap.size (.slice o3 (shelved es l).length c3) (.slice o4 rd.length c4) ⟨shelved es l, rd⟩ :=
          ⟨own_base (hks.owns hkp9.es (fun g hg hm => hne g (by simp [tK, hg]) (by simpa using hm))) (by have := HKW.out.size; omega), own_base (hks.owns hkp9.rd (fun g hg hm => hne g (by simp [tK, hg]) (by simpa using hm))) (by have := HKW.out.size; omega)⟩
        exact ⟨rfl, _, results_row3 (P := Tryz.prog) rfl _ _ (w.heap.size + 1) 64 _ (0, 0) _ rfl (set2_blk _ _ hb17) Tryz.underlying64 rfl (by kernel_rfl), _, _, rfl, hown, keeps_on (HKW.out.trans (HK3.out.trans hk37)) hks (fun g hg hlt => by simp at hg; omega)⟩
end Go.Proofs.YtlcljanibjdejaaGreat

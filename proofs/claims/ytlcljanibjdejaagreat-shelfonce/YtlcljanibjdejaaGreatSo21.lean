/- Rows that are changed in place: cells that are cleared, moved, copied; a keeper of a shelf. A keeper: where an entry of an id stands. slices.Delete, of entries and of texts, over a row that is known whole. -/
import Derived.Test.YtlcljanibjdejaaGreatSo20
import Derived.Laws.CopyRow
import Derived.Laws.Rows
namespace Go.Proofs.YtlcljanibjdejaaGreat
open Go.RowKit Go.Maps
theorem setRow_blk {w : World} {g : Nat} {cur : Array Value} {t : TypeId} {fz : Nat × Nat} (h : w.heap[g]? = some (.cells cur t fz)) (cs : Array Value) : (w.setRow g cs).heap[g]? = some (.cells cs t fz) := by
  simp [World.setRow, Array.getElem?_modify, h]
theorem setRow_else (w : World) {g k : Nat} (h : k ≠ g) (cs : Array Value) : (w.setRow g cs).heap[k]? = w.heap[k]? := by
  simp [World.setRow, Array.getElem?_modify, Ne.symm h]
theorem setRow_keeps (w : World) (g : Nat) (cs : Array Value) : Keeps [g] w (w.setRow g cs) :=
  ⟨rfl, rfl, rfl, by simp, fun k _ hS => setRow_else w (by simpa using hS) cs⟩
/-- The row behind cells that were laid over it. -/
def laidR (cur : Array Value) (off : Nat) (cs : List Value) : Array Value := (cur.toList.take off ++ cs ++ cur.toList.drop (off + cs.length)).toArray
theorem laidR_size {cur : Array Value} {off : Nat} {cs : List Value} (h : off + cs.length ≤ cur.size) : (laidR cur off cs).size = cur.size := by
  simp [laidR]; omega
theorem laidR_take {cur : Array Value} {off n : Nat} {cs : List Value} (h : off + cs.length ≤ cur.size) (hn : n = off + cs.length) : (laidR cur off cs).toList.take n = cur.toList.take off ++ cs := by
  subst hn
  simp only [laidR]
  rw [List.take_append_of_le_length (by simp; omega)]
  exact List.take_of_length_le (by simp; omega)
theorem laidR_head {cur : Array Value} {off n : Nat} {cs : List Value} (h : off + cs.length ≤ cur.size) (hn : n ≤ off) : (laidR cur off cs).toList.take n = cur.toList.take n := by
  simp only [laidR]
  rw [List.append_assoc, List.take_append_of_le_length (by simp; omega), List.take_take, Nat.min_eq_left hn]
theorem zeroCells_one {z : Value} (h : ∀ u ∈ z.cells.toList, u.oneCell' = true) (n : Nat) : ∀ u ∈ (Builtin.zeroCells z.cells n).toList, u.oneCell' = true := by
  intro u hu
  obtain ⟨i, hi, rfl⟩ := List.mem_iff_getElem.1 hu
  have hz : 0 < z.cells.size := by
    rcases Nat.eq_zero_or_pos z.cells.size with h0 | h0
    · simp [Builtin.zeroCells, h0] at hi
    · exact h0
  have hm := Nat.mod_lt i hz
  simp only [Builtin.zeroCells, Array.getElem_toList, Array.getElem_map, Array.getElem_range]
  rw [getElem!_pos z.cells _ hm]
  exact h _ (by simp)
theorem zeroCells_len (z : Value) (n : Nat) : (Builtin.zeroCells z.cells n).toList.length = n * z.cells.size := by simp [Builtin.zeroCells]
/-- clear, of a part of a row that is known whole. -/
theorem run_clear_row {P : Program} (w : World) (t e ty : TypeId) (z : Value) (ht : P.underlying t = some (.slice e)) (hv : ∀ w, (zeroValue e).run P w = .ok z w) (h1 : ∀ u ∈ z.cells.toList, u.oneCell' = true) (g off n c : Nat) (cur : Array Value) (t' : TypeId) (hg : w.heap[g]? = some (.cells cur t' (0, 0))) (hn : 0 < n) (hfit : off + n * z.cells.size ≤ cur.size) :
    (Builtin.clear_ #[t] ty #[.slice (some ⟨g, off, none⟩) n c]).run P w = .ok (.tuple #[]) (w.setRow g (laidR cur off (Builtin.zeroCells z.cells n).toList)) := by
  have hst := run_storeCells_at P g off t' (Builtin.zeroCells z.cells n).toList 0 cur w hg (by rw [zeroCells_len]; simpa using hfit) (zeroCells_one h1 n)
  simp only [Nat.add_zero] at hst
  obtain ⟨m, rfl⟩ : ∃ m, n = m + 1 := ⟨n - 1, by omega⟩
  simp only [laidR]
  simp [Builtin.clear_, run_underlying ht, hv, hst]
/-- copy, onto a part of a row that is known whole, at an element of any size. -/
theorem run_copy_rowZ {P : Program} (w : World) (dT sT ty elem : TypeId) (i : TypeInfo) (size : Nat) (g o dLen dCap : Nat) (a : Addr) (sLen sCap : Nat) (cur : Array Value) (t : TypeId) (cs : List Value)
    (hu : P.underlying dT = some (.slice elem)) (hi : P.info? elem = some i) (hz : i.size = size) (hg : w.heap[g]? = some (.cells cur t (0, 0))) (k : Nat) (hk : k = Nat.min sLen dLen) (hn : cs.length = k * size)
    (hsrc : ∀ j v, cs[j]? = some v → w.cell? (a.add j) = some v) (hfit : o + cs.length ≤ cur.size) (h1 : ∀ v ∈ cs, v.oneCell' = true) :
    (Builtin.copy_ #[dT, sT] ty #[.slice (some ⟨g, o, none⟩) dLen dCap, .slice (some a) sLen sCap]).run P w = .ok (goInt k) (w.setRow g (laidR cur o cs)) := by
  subst hk
  subst hz
  have hf := run_firstCells_some (P := P) w i.size (Nat.min sLen dLen) a sLen sCap cs hn hsrc
  have hst := run_storeCells_at P g o t cs 0 cur w hg (by simpa using hfit) h1
  simp only [Nat.add_zero] at hst
  simp only [laidR]
  simp [Builtin.copy_, run_underlying hu, Builtin.lenOf, sizeOf, typeInfo, hi, hf, hst]
/-- append, of all that lies in a slice, onto nothing. -/
theorem run_append_all {P : Program} (w : World) (base : Nat) (t ty e : TypeId) (i : TypeInfo) (z : Value) (size bytes : Nat) (ht : P.underlying t = some (.slice e)) (hi : P.info? e = some i) (hz : i.zero = some z)
    (hsize : i.size = size) (hby : i.bytes = bytes) (hzs : z.cells.size = size) (hsz : 0 < size) (va : Value) (n : Nat) (xs : List Value) (hl : Lies w va n size xs) (h1 : ∀ u ∈ xs, u.oneCell' = true)
    (hbytes : n * bytes ≤ 140737488355328) (hbase : base ≤ w.heap.size) :
    ∃ v' w', (Builtin.append_ #[t, t] ty #[.slice none 0 0, va]).run P w = .ok v' w' ∧ w'.ownsRow base e size v' n xs ∧ Keeps [] w w' := by
  obtain ⟨o, c, rfl, g1, g2⟩ := hl.form
  rcases Nat.eq_zero_or_pos n with h0 | h0
  · subst h0
    have hx : xs = [] := List.eq_nil_of_length_eq_zero (by have := hl.1; omega)
    subst hx
    exact ⟨_, _, run_append_empty w t ty e i ht hi o c, World.ownsRow_nil _ _ _ _, Keeps.refl _ _⟩
  · obtain ⟨g, off, rfl, hc⟩ := hl.addr h0
    obtain ⟨v', w', hr, h2, h3, _⟩ := run_append_own (P := P) w base t ty e i z size bytes ht hi hz hsize hby hzs hsz (.slice none 0 0) 0 [] (World.ownsRow_nil _ _ _ _) ⟨g, off, none⟩ n c xs hl.1 (fun j u hj => by rw [Addr.add_lit]; exact hc j u hj) h1 (by omega) (by rw [Nat.zero_add]; exact hbytes) hbase
    rw [Nat.zero_add, List.nil_append] at h2
    exact ⟨v', w', hr, h2, (Keeps.refl [] w).grown h3 (fun i e => by simp [Value.ownBlock] at e)⟩
theorem step_all {P : Program} {ops : Array Oper} {o : Oper} {a : Act} {w : World} {K : Act → World → Prop} {Q : Exit → Act → World → Prop} {E : Prop} (hg : o.guard = none) (s x : Operand) (t : TypeId)
    (ho : o.op = .call { callee := .builtin .append, args := #[s, x], argTypes := #[t, t] })
    (base : Nat) (e : TypeId) (i : TypeInfo) (z : Value) (size bytes : Nat) (ht : P.underlying t = some (.slice e)) (hi : P.info? e = some i) (hz : i.zero = some z)
    (hsize : i.size = size) (hby : i.bytes = bytes) (hzs : z.cells.size = size) (hsz : 0 < size)
    (va : Value) (n : Nat) (xs : List Value) (hs : a.eval s = .slice none 0 0) (hx : a.eval x = va) (hl : Lies w va n size xs) (h1 : ∀ u ∈ xs, u.oneCell' = true)
    (hbytes : n * bytes ≤ 140737488355328) (hbase : base ≤ w.heap.size)
    (h : ∀ v' w', w'.ownsRow base e size v' n xs → Keeps [] w w' → K (a.put o.dst v') w') :
    if Region.wanted o (yielded ops a.tmps) = true then Oper.wp P o a w K Q else E := by
  refine step_is hg ?_
  obtain ⟨v', w', hr, h2, h3⟩ := run_append_all (P := P) w base t o.type e i z size bytes ht hi hz hsize hby hzs hsz va n xs hl h1 hbytes hbase
  unfold Oper.wp execOp
  simp only [ho, resolve, invoke, builtin, Sem.run_bind, Sem.run_pure, Result.andThen_ok, List.map_toArray, List.map_cons, List.map_nil, hs, hx, hr]
  exact h v' w' h2 h3
theorem info75 : (Tryz.prog.info? 75).map (fun i => (i.zero, i.size, i.bytes)) = some (some (.agg #[.string ⟨#[]⟩, .string ⟨#[]⟩, .string ⟨#[]⟩, .int .i64 0, .string ⟨#[]⟩]), 5, 72) := by kernel_rfl
theorem ens_one (l : List En) : ∀ u ∈ ensCells l, u.oneCell' = true := by
  intro u hu
  obtain ⟨x, _, hx⟩ := List.mem_flatMap.1 hu
  simp only [enCells, List.mem_cons, List.not_mem_nil, or_false] at hx
  rcases hx with rfl | rfl | rfl | rfl | rfl <;> rfl
theorem ids_one (l : List (List UInt8)) : ∀ u ∈ idCs l, u.oneCell' = true := by
  intro u hu
  obtain ⟨x, _, rfl⟩ := List.mem_map.1 hu
  rfl
theorem ensCells_app (a b : List En) : ensCells (a ++ b) = ensCells a ++ ensCells b := by simp [ensCells]
theorem ensCells_take (l : List En) (k : Nat) : (ensCells l).take (k * 5) = ensCells (l.take k) := by
  by_cases h : k ≤ l.length
  · conv => lhs; rw [← List.take_append_drop k l, ensCells_app]
    have e : (ensCells (l.take k)).length = k * 5 := by rw [ensCells_len, List.length_take, Nat.min_eq_left h]
    rw [List.take_append_of_le_length (by omega), List.take_of_length_le (by omega)]
  · rw [List.take_of_length_le (by rw [ensCells_len]; omega), List.take_of_length_le (by omega)]
theorem ensCells_drop (l : List En) (k : Nat) : (ensCells l).drop (k * 5) = ensCells (l.drop k) := by
  by_cases h : k ≤ l.length
  · conv => lhs; rw [← List.take_append_drop k l, ensCells_app]
    have e : (ensCells (l.take k)).length = k * 5 := by rw [ensCells_len, List.length_take, Nat.min_eq_left h]
    rw [List.drop_append_of_le_length (by omega), List.drop_eq_nil_of_le (by omega), List.nil_append]
  · rw [List.drop_eq_nil_of_le (by rw [ensCells_len]; omega), List.drop_eq_nil_of_le (by omega)]
    rfl
structure IsKp (w : World) (B k : Nat) (ev rv : Value) (s : Sh) : Prop where
  blk : w.heap[k]? = some (.cells #[ev, rv] 155 (0, 0))
  es : w.ownsRow B 75 5 ev s.es.length (ensCells s.es)
  rd : w.ownsRow B 9 1 rv s.rd.length (idCs s.rd)
  hb : B ≤ k
def tK (k : Nat) (ev rv : Value) : List Nat := k :: (ev.ownBlock.toList ++ rv.ownBlock.toList)
set_option maxRecDepth 8000 in
set_option maxHeartbeats 8000000 in
theorem keep_good (w : World) (ev rv : Value) (s : Sh) (he : Lies w ev s.es.length 5 (ensCells s.es)) (hr : Lies w rv s.rd.length 1 (idCs s.rd)) (hf : ∀ x ∈ s.es, FitE x) (hM : HasMax w) (h0 : chkSh s = 0) :
    Calls Tryz.prog 116 #[.agg #[ev, rv]] w fun e w' => ∃ k ev' rv', e = .returned (.tuple #[.pointer (some ⟨k, 0, none⟩), .int .i64 0]) ∧ IsKp w' w.heap.size k ev' rv' s ∧ Keeps [] w w' := by
  obtain ⟨hp1, hp2, _, _⟩ := chkSh_parts h0
  obtain ⟨es, rd⟩ := s
  simp only at he hr hf hp1 hp2
  obtain ⟨eo, ec, rfl, g1, g2⟩ := he.form
  obtain ⟨ro, rc, rfl, g3, g4⟩ := hr.form
  obtain ⟨i0, hi, hz0, hz1, hz2⟩ := info_parts info75
  obtain ⟨i1, hj, hy0, hy1, hy2⟩ := info_parts info9s
  have nn : ∀ g, g ∉ ([] : List Nat) := fun _ => List.not_mem_nil
  obtain ⟨W, hW⟩ : ∃ W, w.alloc (.cells #[.slice eo es.length ec, .slice ro rd.length rc] 64) = W := ⟨_, rfl⟩
  have hkW : Keeps [] w W := by rw [← hW]; exact (Keeps.refl [] w).alloc _
  have hb := (nblk_new rfl hW).1
  have b0 : W.cell? ⟨w.heap.size, 0, none⟩ = some (.slice eo es.length ec) := cell_blk hb 0
  have b1 : W.cell? ⟨w.heap.size, 1, none⟩ = some (.slice ro rd.length rc) := cell_blk hb 1
  have hsc := hide (shelfCheck_any W _ _ ⟨es, rd⟩ (he.keeps hkW) (hr.keeps hkW) hf (hM.keeps hkW (nn _)))
  rw [h0] at hsc
  have HB := hide hb
  have HKW := hide hkW
  have HW := hide hW
  have HV := hide he
  have HR := hide hr
  unfold maxLen at g2 g4
  clear he hr hM h0 hf hb hkW hW
  go_enter Tryz.func116, Tryz.ntmps116
  go_upto_region 1 with fail
  rw [HW.out]
  go_wp2_with fail
  refine hsc.out.mono ?_
  rintro e w1 ⟨rfl, hk1⟩
  obtain ⟨W2, hW2⟩ : ∃ W2, w1.alloc (.cells #[.slice none 0 0, .slice none 0 0] 155) = W2 := ⟨_, rfl⟩
  have hk2 : Keeps [] w1 W2 := by rw [← hW2]; exact (Keeps.refl [] w1).alloc _
  have hb2 := (nblk_new rfl hW2).1
  have HK2 := hide ((HKW.out.trans hk1).trans hk2)
  have hbw2 := ((hk1.trans hk2).block _ (lt_of_block HB.out) List.not_mem_nil).trans HB.out
  have HBW2 := hide hbw2
  have c0 : W2.cell? ⟨w.heap.size, 0, none⟩ = some (.slice eo es.length ec) := cell_blk hbw2 0
  have d0 : W2.cell? ⟨w1.heap.size, 0, none⟩ = some (.slice none 0 0) := cell_blk hb2 0
  have f0 : W2.frozen? ⟨w1.heap.size, 0, none⟩ = false := free_blk hb2 0
  have hsz : w.heap.size ≤ w1.heap.size := Nat.le_trans HKW.out.size hk1.size
  have hne : w.heap.size ≠ w1.heap.size := by have := lt_of_block HB.out; have := hk1.size; omega
  have HW2 := hide hW2
  have HB2 := hide hb2
  clear hk1 hk2 hb2 hbw2 hW2 b0 b1 hsc
  go_upto_region 5 with fail
  rw [HW2.out]
  go_cut [5] from 13 to 37 (fun p wc => p = .pointer (some ⟨w1.heap.size, 0, none⟩) ∧ ∃ e3, wc.heap[w1.heap.size]? = some (.cells #[e3, .slice none 0 0] 155 (0, 0)) ∧ wc.ownsRow w.heap.size 75 5 e3 es.length (ensCells es) ∧ Keeps [] w wc ∧ wc.cell? ⟨w.heap.size, 1, none⟩ = some (.slice ro rd.length rc))
  case first =>
    go_region_law (refine step_all rfl _ _ 61 rfl w.heap.size 75 i0 _ 5 72 Tryz.underlying61 hi hz0 hz1 hz2 (by kernel_rfl) (by decide) (.slice eo es.length ec) es.length (ensCells es) rfl rfl (HV.out.keeps (by first | exact HK2.out | exact HK2.out.drew)) (ens_one es) (by omega) (by have := HK2.out.size; first | exact this | (simp; exact this)) ?_; intro v3 w3 ho3 hk3; obtain ⟨o3, c3, rfl⟩ := row_form ho3; have hk23 : Keeps [] W2 w3 := (by first | exact hk3 | exact ((Keeps.refl [] W2).drew).trans hk3); have hb3 := (hk23.block _ (lt_of_block HB2.out) List.not_mem_nil).trans HB2.out; have x0 := cell_blk hb3 0; have y0 := free_blk hb3 0; simp at x0)
    all_goals go_wp2_with fail
    all_goals go_meet
    all_goals exact ⟨rfl, _, by simp [World.setCell, Array.getElem?_modify, hb3], set_row ho3 (block_ne ho3 hb3 (by decide)) _, (HK2.out.trans hk23).setCell (.inr hsz) _, cell_keepsS ((Keeps.refl [w1.heap.size] w3).setCell (.inl (by simp)) _) (by simpa using hne) (cell_keeps hk23 (cell_blk HBW2.out 1))⟩
  case rest =>
    obtain ⟨rfl, e3, hbk, hrow, hkc, hrc⟩ := hcut
    obtain ⟨oe, ce, rfl⟩ := row_form hrow
    have d1 := cell_blk hbk 1
    have y1 := free_blk hbk 1
    simp at d1
    have HBK := hide hbk
    have HROW := hide hrow
    have HKC := hide hkc
    clear hbk hrow hkc c0 d0 f0
    go_upto_region 6 with fail
    go_cut [5] from 25 to 37 (fun p wd => p = .pointer (some ⟨w1.heap.size, 0, none⟩) ∧ ∃ r3, IsKp wd w.heap.size w1.heap.size (.slice oe es.length ce) r3 ⟨es, rd⟩ ∧ Keeps [] w wd)
    case first =>
      go_region_law (refine step_all rfl _ _ 62 rfl w.heap.size 9 i1 _ 1 16 Tryz.underlying62 hj hy0 hy1 hy2 (by kernel_rfl) (by decide) (.slice ro rd.length rc) rd.length (idCs rd) rfl rfl (HR.out.keeps (by first | exact HKC.out | exact HKC.out.drew)) (ids_one rd) (by omega) (by have := HKC.out.size; first | exact this | (simp; exact this)) ?_; intro v3 w3 ho3 hk3; obtain ⟨o3, c3, rfl⟩ := row_form ho3; have hk23 : Keeps [] wc w3 := (by first | exact hk3 | exact ((Keeps.refl [] wc).drew).trans hk3); have hb3 := (hk23.block _ (lt_of_block HBK.out) List.not_mem_nil).trans HBK.out; have x0 := cell_blk hb3 1; have y0 := free_blk hb3 1; simp at x0)
      all_goals go_wp2_with fail
      all_goals go_meet
      all_goals exact ⟨rfl, _, ⟨by simp [World.setCell, Array.getElem?_modify, hb3], set_row (hk23.owns HROW.out (fun _ _ => List.not_mem_nil)) (block_ne (hk23.owns HROW.out (fun _ _ => List.not_mem_nil)) hb3 (by decide)) _, set_row ho3 (block_ne ho3 hb3 (by decide)) _, hsz⟩, (HKC.out.trans hk23).setCell (.inr hsz) _⟩
    case rest =>
      obtain ⟨rfl, r3, hkp, hkd⟩ := hcut
      go_wp2_with fail
      go_ret2
      exact ⟨_, _, _, rfl, hkp, hkd⟩
theorem keep_bad (w : World) (ev rv : Value) (s : Sh) (he : Lies w ev s.es.length 5 (ensCells s.es)) (hr : Lies w rv s.rd.length 1 (idCs s.rd)) (hf : ∀ x ∈ s.es, FitE x) (hM : HasMax w) (h0 : chkSh s ≠ 0) :
    Calls Tryz.prog 116 #[.agg #[ev, rv]] w fun e w' => e = .returned (.tuple #[.pointer none, .int .i64 (chkSh s)]) ∧ Keeps [] w w' := by
  obtain ⟨es, rd⟩ := s
  simp only at he hr hf
  obtain ⟨eo, ec, rfl, g1, g2⟩ := he.form
  obtain ⟨ro, rc, rfl, g3, g4⟩ := hr.form
  have nn : ∀ g, g ∉ ([] : List Nat) := fun _ => List.not_mem_nil
  obtain ⟨W, hW⟩ : ∃ W, w.alloc (.cells #[.slice eo es.length ec, .slice ro rd.length rc] 64) = W := ⟨_, rfl⟩
  have hkW : Keeps [] w W := by rw [← hW]; exact (Keeps.refl [] w).alloc _
  have hb := (nblk_new rfl hW).1
  have b0 : W.cell? ⟨w.heap.size, 0, none⟩ = some (.slice eo es.length ec) := cell_blk hb 0
  have b1 : W.cell? ⟨w.heap.size, 1, none⟩ = some (.slice ro rd.length rc) := cell_blk hb 1
  have hsc := hide (shelfCheck_any W _ _ ⟨es, rd⟩ (he.keeps hkW) (hr.keeps hkW) hf (hM.keeps hkW (nn _)))
  have HKW := hide hkW
  have HW := hide hW
  have hne : (chkSh ⟨es, rd⟩ != 0) = true := by simpa using h0
  generalize chkSh ⟨es, rd⟩ = C at *
  unfold maxLen at g2 g4
  clear he hr hM h0 hf hb hkW hW
  go_enter Tryz.func116, Tryz.ntmps116
  go_upto_region 1 with fail
  rw [HW.out]
  go_wp2_with fail
  refine hsc.out.mono ?_
  rintro e w1 ⟨rfl, hk1⟩
  go_wp2_with fail
  go_ret2
  exact ⟨rfl, HKW.out.trans hk1⟩
end Go.Proofs.YtlcljanibjdejaaGreat
namespace Go.Proofs.YtlcljanibjdejaaGreat
open Go.RowKit Go.Maps
theorem enters196 : Enters 196 := enters_of Tryz.func196 (by kernel_rfl) (by kernel_rfl)
theorem isId_any (x : En) (id : List UInt8) (p : Nat) (w : World) (hp : w.cell? ⟨p, 0, none⟩ = some (.string ⟨id.toArray⟩)) :
    Calls Tryz.prog 196 #[.agg (enCells x).toArray, .pointer (some ⟨p, 0, none⟩)] w fun e w' => e = .returned (.bool (decide (x.id = id))) ∧ Keeps [] w w' := by
  obtain ⟨W, hW⟩ : ∃ W, w.alloc (.cells (enCells x).toArray 75) = W := ⟨_, rfl⟩
  have hkW : Keeps [] w W := by rw [← hW]; exact (Keeps.refl [] w).alloc _
  have hb := (nblk_new rfl hW).1
  have b0 : W.cell? ⟨w.heap.size, 0, none⟩ = some (.string ⟨x.id.toArray⟩) := cell_blk hb 0
  have q0 := cell_keeps hkW hp
  have HKW := hide hkW
  have HW := hide hW
  have heq : (x.id == id) = decide (x.id = id) := Bool.beq_eq_decide_eq _ _
  generalize decide (x.id = id) = R at *
  clear hkW hb hW hp
  go_enter Tryz.func196, Tryz.ntmps196
  go_upto_region 1 with fail
  rw [HW.out]
  go_wp2_with fail
  go_ret
  exact ⟨rfl, HKW.out⟩
def idxFE (id : List UInt8) : List En → Nat → Int
  | [], _ => -1
  | x :: r, k => if x.id = id then (k : Int) else idxFE id r (k + 1)
theorem idxFE_drop (id : List UInt8) (l : List En) (k : Nat) (hk : k < l.length) : idxFE id (l.drop k) k = if l[k].id = id then (k : Int) else idxFE id (l.drop (k + 1)) (k + 1) := by
  rw [List.drop_eq_getElem_cons hk]
  rfl
def idxE (id : List UInt8) (l : List En) : Int := idxFE id l 0
set_option maxRecDepth 8000 in
set_option maxHeartbeats 8000000 in
theorem idx195_any (id : List UInt8) (p : Nat) (w : World) (v : Value) (l : List En) (hv : Lies w v l.length 5 (ensCells l)) (hp : w.cell? ⟨p, 0, none⟩ = some (.string ⟨id.toArray⟩)) :
    Calls Tryz.prog 195 #[v, .func (.func 196) #[] #[.pointer (some ⟨p, 0, none⟩)]] w fun e w' => e = .returned (.int .i64 (idxE id l)) ∧ Keeps [] w w' := by
  have hE := enters196
  unfold Enters at hE
  obtain ⟨o, c, rfl, h1, h2⟩ := hv.form
  unfold maxLen at h2
  obtain ⟨R, hR⟩ : ∃ R, idxE id l = R := ⟨_, rfl⟩
  rw [hR]
  have HR := hide hR
  have HV := hide hv
  have HP := hide hp
  clear hR hv hp
  go_enter Tryz.func195, Tryz.ntmps195
  go_wp2_with fail
  go_loopw [8] (fun i wr => ∃ k : Nat, k ≤ l.length ∧ i = .int .i64 k ∧ Keeps [] w wr ∧ Hid (idxFE id (l.drop k) k = R)) (fun i _ => l.length - (intOf i).toNat)
  case atStart => exact ⟨0, Nat.zero_le _, rfl, Keeps.refl _ _, HR⟩
  case round =>
    obtain ⟨k, hk, rfl, hkw, hC⟩ := hrel
    clear HR
    by_cases hlt : k < l.length
    · have hC1 := hC.out
      rw [idxFE_drop id l k hlt] at hC1
      obtain ⟨g, o0, rfl, hc⟩ := (HV.out.keeps hkw).addr (by omega)
      obtain ⟨a0, a1, a2, a3, a4⟩ := lies_en hc k hlt
      have HC1 := hide hC1
      have hcall := hide (isId_any l[k] id p wr (cell_keeps hkw HP.out))
      unfold enCells at hcall
      clear hC hC1 hc
      generalize l[k] = x at *
      by_cases hx : x.id = id
      · have hRk : R = (k : Int) := by rw [← HC1.out]; simp [hx]
        rw [decide_eq_true hx] at hcall
        subst hRk
        clear HC1 hx
        go_wp2_with fail
        refine hcall.out.mono ?_
        rintro e w3 ⟨rfl, hk3⟩
        go_wp2_with fail
        go_ret
        exact ⟨rfl, hkw.trans hk3⟩
      · have HC2 : Hid (idxFE id (l.drop (k + 1)) (k + 1) = R) := hide (by have := HC1.out; simpa [hx] using this)
        rw [decide_eq_false hx] at hcall
        clear HC1 hx
        go_wp2_with fail
        refine hcall.out.mono ?_
        rintro e w3 ⟨rfl, hk3⟩
        have HK3 := hide (hkw.trans hk3)
        clear hk3 a0 a1 a2 a3 a4
        go_wp2_with fail
        go_roundw
        case rel => exact ⟨k + 1, by omega, by go_num, HK3.out, HC2⟩
        case measure => simp [intOf]; omega
    · have hRR : R = -1 := by
        rw [← hC.out, List.drop_eq_nil_of_le (by omega)]
        rfl
      subst hRR
      go_wp2_with fail
      go_ret
      exact ⟨rfl, hkw⟩
set_option maxRecDepth 4000 in
set_option maxHeartbeats 4000000 in
theorem place_any (w : World) (B k : Nat) (ev rv : Value) (s : Sh) (id : List UInt8) (h : IsKp w B k ev rv s) :
    Calls Tryz.prog 121 #[.pointer (some ⟨k, 0, none⟩), .string ⟨id.toArray⟩] w fun e w' => e = .returned (.int .i64 (idxE id s.es)) ∧ Keeps [] w w' := by
  obtain ⟨es, rd⟩ := s
  have hes := h.es
  simp only at hes ⊢
  obtain ⟨eo, ec, rfl⟩ := row_form hes
  obtain ⟨W, hW⟩ : ∃ W, w.alloc (.cells #[.string ⟨id.toArray⟩] 9) = W := ⟨_, rfl⟩
  have hkW : Keeps [] w W := by rw [← hW]; exact (Keeps.refl [] w).alloc _
  have hb := (nblk_new rfl hW).1
  have q0 : W.cell? ⟨w.heap.size, 0, none⟩ = some (.string ⟨id.toArray⟩) := cell_blk hb 0
  have c0 : W.cell? ⟨k, 0, none⟩ = some (.slice eo es.length ec) := cell_keeps hkW (cell_blk h.blk 0)
  have hcall := hide (idx195_any id w.heap.size W _ es ((Lies.of_row hes).keeps hkW) q0)
  have HKW := hide hkW
  have HW := hide hW
  generalize idxE id es = R at *
  have hmf : ∀ (fn : Fn) (first cap : Array Value) (w : World), (Instr.makeFunc fn first cap).run Tryz.prog w = .ok (.func fn first cap) w := fun _ _ _ _ => rfl
  clear hkW hb hW h hes q0
  go_enter Tryz.func121, Tryz.ntmps121
  go_upto_region 1 with fail
  rw [HW.out]
  go_wp2_with fail
  refine hcall.out.mono ?_
  rintro e w3 ⟨rfl, hk3⟩
  go_wp2_with fail
  go_ret
  exact ⟨rfl, HKW.out.trans hk3⟩
end Go.Proofs.YtlcljanibjdejaaGreat
namespace Go.Proofs.YtlcljanibjdejaaGreat
open Go.RowKit Go.Maps
/-- An append into the room of a row that is known whole. -/
theorem step_append_row {P : Program} {ops : Array Oper} {o : Oper} {a : Act} {w : World} {K : Act → World → Prop} {Q : Exit → Act → World → Prop} {E : Prop}
    (hg : o.guard = none) (s x : Operand) (t : TypeId) (hop : o.op = Op.call { callee := Callee.builtin Builtin.append, args := #[s, x], argTypes := #[t, t] })
    (e : TypeId) (i : TypeInfo) (size : Nat) (h1 : P.underlying t = some (.slice e)) (h2 : P.info? e = some i) (h4 : i.size = size)
    (g n cap : Nat) (hs : a.eval s = .slice (some ⟨g, 0, none⟩) n cap) (cur : Array Value) (hb : w.heap[g]? = some (.cells cur e (0, 0)))
    (ad : Addr) (m c : Nat) (news : List Value) (hx : a.eval x = .slice (some ad) m c) (hn : news.length = m * size) (hc : ∀ j u, news[j]? = some u → w.cell? (ad.add j) = some u) (h1c : ∀ u ∈ news, u.oneCell' = true)
    (hroom : n + m ≤ cap) (hfit : n * size + news.length ≤ cur.size)
    (hK : K (a.put o.dst (.slice (some ⟨g, 0, none⟩) (n + m) cap)) (w.setRow g (laidR cur (n * size) news))) :
    if Region.wanted o (yielded ops a.tmps) = true then Oper.wp P o a w K Q else E := by
  have hw : Region.wanted o (yielded ops a.tmps) = true := by simp [Region.wanted, hg]
  rw [if_pos hw]
  subst h4
  have hrun := run_append_room (P := P) w t o.type e i h1 h2 g n cap cur hb ad m c news hn hc h1c hroom hfit
  unfold Oper.wp execOp
  simp only [hop, resolve, invoke, builtin, Sem.run_bind, Sem.run_pure, Result.andThen_ok, List.map_toArray, List.map_cons, List.map_nil, hs, hx, hrun]
  exact hK
theorem idCs_take (l : List (List UInt8)) (k : Nat) : (idCs l).take (k * 1) = idCs (l.take k) := by simp [idCs]
theorem idCs_drop (l : List (List UInt8)) (k : Nat) : (idCs l).drop (k * 1) = idCs (l.drop k) := by simp [idCs]
theorem idCs_len1 (l : List (List UInt8)) : (idCs l).length = l.length * 1 := by simp [idCs]
set_option maxRecDepth 8000 in
set_option maxHeartbeats 8000000 in
theorem delete190_any (w : World) (g cap n i j : Nat) (cur : Array Value) (l : List En) (hg : w.heap[g]? = some (.cells cur 75 (0, 0))) (hn : l.length = n) (hnc : n ≤ cap) (hcs : cur.size = cap * 5) (htake : cur.toList.take (n * 5) = ensCells l) (hij : i ≤ j) (hj : j ≤ n) :
    Calls Tryz.prog 190 #[.slice (some ⟨g, 0, none⟩) n cap, .int .i64 i, .int .i64 j] w fun e w' => e = .returned (.slice (some ⟨g, 0, none⟩) (n - (j - i)) cap) ∧ ∃ cur', w'.heap[g]? = some (.cells cur' 75 (0, 0)) ∧ cur'.size = cap * 5 ∧ cur'.toList.take ((n - (j - i)) * 5) = ensCells (l.take i ++ l.drop j) ∧ Keeps [g] w w' := by
  obtain ⟨i0, hi, hz0, hz1, hz2⟩ := info_parts info75
  have hv : ∀ w, (zeroValue 75).run Tryz.prog w = .ok (.agg #[.string ⟨#[]⟩, .string ⟨#[]⟩, .string ⟨#[]⟩, .int .i64 0, .string ⟨#[]⟩]) w := fun w => by simp [zeroValue, typeInfo, hi, hz0]
  by_cases heq : i = j
  · subst heq
    have h0 : Calls Tryz.prog 190 #[.slice (some ⟨g, 0, none⟩) n cap, .int .i64 i, .int .i64 i] w fun e w' => e = .returned (.slice (some ⟨g, 0, none⟩) n cap) ∧ w' = w := by
      clear hg htake
      go_enter Tryz.func190, Tryz.ntmps190
      go_wp2_with fail
      all_goals (go_ret; exact ⟨rfl, rfl⟩)
    refine h0.mono ?_
    rintro e w' ⟨rfl, rfl⟩
    exact ⟨by rw [Nat.sub_self, Nat.sub_zero], cur, hg, hcs, by rw [Nat.sub_self, Nat.sub_zero, htake, List.take_append_drop], Keeps.refl _ _⟩
  · have hlt : i < j := by omega
    obtain ⟨news, hnews⟩ : ∃ news, news = ensCells (l.drop j) := ⟨_, rfl⟩
    have hlen : news.length = (n - j) * 5 := by rw [hnews, ensCells_len, List.length_drop, hn]
    have hcell : ∀ t u, news[t]? = some u → w.cell? ⟨g, j * 5 + t, none⟩ = some u := fun t u hu => by
      rw [hnews, ← ensCells_drop, List.getElem?_drop] at hu
      rw [← htake, List.getElem?_take] at hu
      split at hu
      · rw [cell_of_row w g (j * 5 + t) cur 75 (0, 0) hg]; simpa using hu
      · cases hu
    obtain ⟨A, hA, hsrc⟩ : ∃ A : Addr, (if cap = j then (some (⟨g, 0, none⟩ : Addr)) else some ⟨g, j * 5, none⟩) = some A ∧ Hid (∀ t u, news[t]? = some u → w.drew.cell? (A.add t) = some u) := by
      by_cases h : cap = j
      · refine ⟨⟨g, 0, none⟩, by simp [h], fun t u hu => ?_⟩
        have h0 : news.length = 0 := by rw [hlen]; have : n - j = 0 := by omega
                                        rw [this, Nat.zero_mul]
        rw [List.length_eq_zero_iff.1 h0] at hu
        simp at hu
      · refine ⟨⟨g, j * 5, none⟩, by simp [h], fun t u hu => ?_⟩
        rw [Addr.add_lit]
        exact hcell t u hu
    have s1 : Hid (news.length = (n - j) * 5) := hide hlen
    have s2 : Hid (∀ u ∈ news, u.oneCell' = true) := by rw [hnews]; exact hide (ens_one _)
    have hf1 : i * 5 + news.length ≤ cur.size := by rw [hlen, hcs]; omega
    have s3 := hide hf1
    obtain ⟨cur1, hcur1⟩ : ∃ cur1, laidR cur (i * 5) news = cur1 := ⟨_, rfl⟩
    obtain ⟨W1, hW1⟩ : ∃ W1, w.drew.setRow g cur1 = W1 := ⟨_, rfl⟩
    have hz1' : cur1.size = cap * 5 := by rw [← hcur1, laidR_size hf1, hcs]
    have hg1 : W1.heap[g]? = some (.cells cur1 75 (0, 0)) := by rw [← hW1]; exact setRow_blk (w := w.drew) hg cur1
    have ht1 : cur1.toList.take ((n - (j - i)) * 5) = ensCells (l.take i ++ l.drop j) := by
      rw [← hcur1, laidR_take hf1 (by rw [hlen]; omega), hnews, ensCells_app, ← ensCells_take l i, ← htake, List.take_take, Nat.min_eq_left (by omega)]
    have hcl : ∀ ty, (Builtin.clear_ #[61] ty #[.slice (some ⟨g, (i + (n - j)) * 5, none⟩) (n - (i + (n - j))) (cap - (i + (n - j)))]).run Tryz.prog W1 = .ok (.tuple #[]) (W1.setRow g (laidR cur1 ((i + (n - j)) * 5) (Builtin.zeroCells ((.agg #[.string ⟨#[]⟩, .string ⟨#[]⟩, .string ⟨#[]⟩, .int .i64 0, .string ⟨#[]⟩]) : Value).cells (n - (i + (n - j)))).toList)) :=
      fun ty => run_clear_row W1 61 75 ty (.agg #[.string ⟨#[]⟩, .string ⟨#[]⟩, .string ⟨#[]⟩, .int .i64 0, .string ⟨#[]⟩]) Tryz.underlying61 hv (by intro u hu; simp [Value.cells] at hu; rcases hu with rfl | rfl | rfl | rfl | rfl <;> rfl) g ((i + (n - j)) * 5) _ _ cur1 75 hg1 (by omega) (by rw [hz1']; show _ + _ * 5 ≤ _; omega)
    have hf2 : (i + (n - j)) * 5 + (Builtin.zeroCells ((.agg #[.string ⟨#[]⟩, .string ⟨#[]⟩, .string ⟨#[]⟩, .int .i64 0, .string ⟨#[]⟩]) : Value).cells (n - (i + (n - j)))).toList.length ≤ cur1.size := by rw [zeroCells_len, hz1']; show _ + _ * 5 ≤ _; omega
    obtain ⟨cur2, hcur2⟩ : ∃ cur2, laidR cur1 ((i + (n - j)) * 5) (Builtin.zeroCells ((.agg #[.string ⟨#[]⟩, .string ⟨#[]⟩, .string ⟨#[]⟩, .int .i64 0, .string ⟨#[]⟩]) : Value).cells (n - (i + (n - j)))).toList = cur2 := ⟨_, rfl⟩
    rw [hcur2] at hcl
    have hz2' : cur2.size = cap * 5 := by rw [← hcur2, laidR_size hf2, hz1']
    have ht2 : cur2.toList.take ((n - (j - i)) * 5) = ensCells (l.take i ++ l.drop j) := by
      rw [← hcur2, laidR_head hf2 (by omega)]
      exact ht1
    have hg2 : (W1.setRow g cur2).heap[g]? = some (.cells cur2 75 (0, 0)) := setRow_blk hg1 cur2
    have HKK := hide (show Keeps [g] w (W1.setRow g cur2) from by rw [← hW1]; exact (((Keeps.refl [g] w).drew).trans (setRow_keeps _ g cur1)).trans (setRow_keeps _ g cur2))
    have HG := hide (show w.drew.heap[g]? = some (.cells cur 75 (0, 0)) from hg)
    have HW1 := hide hW1
    have HC1 := hide hcur1
    have HFIN := hide (And.intro hg2 (And.intro hz2' ht2))
    have hic : i ≤ cap := by omega
    have hjc : j ≤ cap := by omega
    have hic2 : ¬ cap = i := by omega
    have hc3 : ¬ cap = i + (n - j) := by omega
    have hnij : n - (j - i) = i + (n - j) := by omega
    rw [hnij] at HFIN ⊢
    clear hg htake hnews hlen hcell hcur1 hcur2 hz1' hg1 ht1 hf1 hf2 hz2' ht2 hg2 hW1 hcs hv
    go_enter Tryz.func190, Tryz.ntmps190
    go_wp2_with fail
    go_region_law (refine step_append_row rfl (.tmp 22) (.tmp 25) 61 rfl 75 i0 5 Tryz.underlying61 hi hz1 g i cap (by simp [Act.eval, Act.put]) cur HG.out A (n - j) (cap - j) news (by simp [Act.eval, Act.put]) s1.out hsrc.out s2.out (by omega) s3.out ?_; rw [HC1.out, HW1.out])
    go_wp2_with fail
    go_ret
    exact ⟨rfl, cur2, HFIN.out.1, HFIN.out.2.1, HFIN.out.2.2, HKK.out⟩
set_option maxRecDepth 8000 in
set_option maxHeartbeats 8000000 in
theorem delete199_any (w : World) (g cap n i j : Nat) (cur : Array Value) (l : List (List UInt8)) (hg : w.heap[g]? = some (.cells cur 9 (0, 0))) (hn : l.length = n) (hnc : n ≤ cap) (hcs : cur.size = cap * 1) (htake : cur.toList.take (n * 1) = idCs l) (hij : i ≤ j) (hj : j ≤ n) :
    Calls Tryz.prog 199 #[.slice (some ⟨g, 0, none⟩) n cap, .int .i64 i, .int .i64 j] w fun e w' => e = .returned (.slice (some ⟨g, 0, none⟩) (n - (j - i)) cap) ∧ ∃ cur', w'.heap[g]? = some (.cells cur' 9 (0, 0)) ∧ cur'.size = cap * 1 ∧ cur'.toList.take ((n - (j - i)) * 1) = idCs (l.take i ++ l.drop j) ∧ Keeps [g] w w' := by
  obtain ⟨i0, hi, hz0, hz1, hz2⟩ := info_parts info9s
  have hv : ∀ w, (zeroValue 9).run Tryz.prog w = .ok (.string ⟨#[]⟩) w := fun w => by simp [zeroValue, typeInfo, hi, hz0]
  by_cases heq : i = j
  · subst heq
    have h0 : Calls Tryz.prog 199 #[.slice (some ⟨g, 0, none⟩) n cap, .int .i64 i, .int .i64 i] w fun e w' => e = .returned (.slice (some ⟨g, 0, none⟩) n cap) ∧ w' = w := by
      clear hg htake
      go_enter Tryz.func199, Tryz.ntmps199
      go_wp2_with fail
      all_goals (go_ret; exact ⟨rfl, rfl⟩)
    refine h0.mono ?_
    rintro e w' ⟨rfl, rfl⟩
    exact ⟨by rw [Nat.sub_self, Nat.sub_zero], cur, hg, hcs, by rw [Nat.sub_self, Nat.sub_zero, htake, List.take_append_drop], Keeps.refl _ _⟩
  · have hlt : i < j := by omega
    obtain ⟨news, hnews⟩ : ∃ news, news = idCs (l.drop j) := ⟨_, rfl⟩
    have hlen : news.length = (n - j) * 1 := by rw [hnews, idCs_len1, List.length_drop, hn]
    have hcell : ∀ t u, news[t]? = some u → w.cell? ⟨g, j * 1 + t, none⟩ = some u := fun t u hu => by
      rw [hnews, ← idCs_drop, List.getElem?_drop] at hu
      rw [← htake, List.getElem?_take] at hu
      split at hu
      · rw [cell_of_row w g (j * 1 + t) cur 9 (0, 0) hg]; simpa using hu
      · cases hu
    obtain ⟨A, hA, hsrc⟩ : ∃ A : Addr, (if cap = j then (some (⟨g, 0, none⟩ : Addr)) else some ⟨g, j * 1, none⟩) = some A ∧ Hid (∀ t u, news[t]? = some u → w.drew.cell? (A.add t) = some u) := by
      by_cases h : cap = j
      · refine ⟨⟨g, 0, none⟩, by simp [h], fun t u hu => ?_⟩
        have h0 : news.length = 0 := by rw [hlen]; have : n - j = 0 := by omega
                                        rw [this, Nat.zero_mul]
        rw [List.length_eq_zero_iff.1 h0] at hu
        simp at hu
      · refine ⟨⟨g, j * 1, none⟩, by simp [h], fun t u hu => ?_⟩
        rw [Addr.add_lit]
        exact hcell t u hu
    have s1 : Hid (news.length = (n - j) * 1) := hide hlen
    have s2 : Hid (∀ u ∈ news, u.oneCell' = true) := by rw [hnews]; exact hide (ids_one _)
    have hf1 : i * 1 + news.length ≤ cur.size := by rw [hlen, hcs]; omega
    have s3 := hide hf1
    obtain ⟨cur1, hcur1⟩ : ∃ cur1, laidR cur (i * 1) news = cur1 := ⟨_, rfl⟩
    obtain ⟨W1, hW1⟩ : ∃ W1, w.drew.setRow g cur1 = W1 := ⟨_, rfl⟩
    have hz1' : cur1.size = cap * 1 := by rw [← hcur1, laidR_size hf1, hcs]
    have hg1 : W1.heap[g]? = some (.cells cur1 9 (0, 0)) := by rw [← hW1]; exact setRow_blk (w := w.drew) hg cur1
    have ht1 : cur1.toList.take ((n - (j - i)) * 1) = idCs (l.take i ++ l.drop j) := by
      rw [← hcur1, laidR_take hf1 (by rw [hlen]; omega), hnews, idCs_app, ← idCs_take l i, ← htake, List.take_take, Nat.min_eq_left (by omega)]
    have hcl : ∀ ty, (Builtin.clear_ #[62] ty #[.slice (some ⟨g, (i + (n - j)) * 1, none⟩) (n - (i + (n - j))) (cap - (i + (n - j)))]).run Tryz.prog W1 = .ok (.tuple #[]) (W1.setRow g (laidR cur1 ((i + (n - j)) * 1) (Builtin.zeroCells ((.string ⟨#[]⟩) : Value).cells (n - (i + (n - j)))).toList)) :=
      fun ty => run_clear_row W1 62 9 ty (.string ⟨#[]⟩) Tryz.underlying62 hv (by intro u hu; simp [Value.cells] at hu; subst hu; rfl) g ((i + (n - j)) * 1) _ _ cur1 9 hg1 (by omega) (by rw [hz1']; show _ + _ * 1 ≤ _; omega)
    have hf2 : (i + (n - j)) * 1 + (Builtin.zeroCells ((.string ⟨#[]⟩) : Value).cells (n - (i + (n - j)))).toList.length ≤ cur1.size := by rw [zeroCells_len, hz1']; show _ + _ * 1 ≤ _; omega
    obtain ⟨cur2, hcur2⟩ : ∃ cur2, laidR cur1 ((i + (n - j)) * 1) (Builtin.zeroCells ((.string ⟨#[]⟩) : Value).cells (n - (i + (n - j)))).toList = cur2 := ⟨_, rfl⟩
    rw [hcur2] at hcl
    have hz2' : cur2.size = cap * 1 := by rw [← hcur2, laidR_size hf2, hz1']
    have ht2 : cur2.toList.take ((n - (j - i)) * 1) = idCs (l.take i ++ l.drop j) := by
      rw [← hcur2, laidR_head hf2 (by omega)]
      exact ht1
    have hg2 : (W1.setRow g cur2).heap[g]? = some (.cells cur2 9 (0, 0)) := setRow_blk hg1 cur2
    have HKK := hide (show Keeps [g] w (W1.setRow g cur2) from by rw [← hW1]; exact (((Keeps.refl [g] w).drew).trans (setRow_keeps _ g cur1)).trans (setRow_keeps _ g cur2))
    have HG := hide (show w.drew.heap[g]? = some (.cells cur 9 (0, 0)) from hg)
    have HW1 := hide hW1
    have HC1 := hide hcur1
    have HFIN := hide (And.intro hg2 (And.intro hz2' ht2))
    have hic : i ≤ cap := by omega
    have hjc : j ≤ cap := by omega
    have hic2 : ¬ cap = i := by omega
    have hc3 : ¬ cap = i + (n - j) := by omega
    have hnij : n - (j - i) = i + (n - j) := by omega
    rw [hnij] at HFIN ⊢
    clear hg htake hnews hlen hcell hcur1 hcur2 hz1' hg1 ht1 hf1 hf2 hz2' ht2 hg2 hW1 hcs hv
    simp only [Nat.mul_one] at hA hcl
    go_enter Tryz.func199, Tryz.ntmps199
    go_wp2_with fail
    go_region_law (refine step_append_row rfl (.tmp 22) (.tmp 25) 62 rfl 9 i0 1 Tryz.underlying62 hi hz1 g i cap (by simp [Act.eval, Act.put]) cur HG.out A (n - j) (cap - j) news (by simp [Act.eval, Act.put]) s1.out hsrc.out s2.out (by omega) s3.out ?_; rw [HC1.out, HW1.out])
    go_wp2_with fail
    go_ret
    exact ⟨rfl, cur2, HFIN.out.1, HFIN.out.2.1, HFIN.out.2.2, HKK.out⟩
end Go.Proofs.YtlcljanibjdejaaGreat

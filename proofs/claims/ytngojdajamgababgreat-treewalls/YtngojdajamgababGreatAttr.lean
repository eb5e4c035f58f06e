/- An attribute: attr. -/
import Derived.Test.YtngojdajamgababGreatValue
import Derived.Laws.BytesArg
import Derived.Deep.DeepCutAuto
namespace Go.Proofs.YtngojdajamgababGreat
open Go.RowKit

theorem enters107 : Enters 107 := enters_of Tryz.func107 (by kernel_rfl) (by kernel_rfl)
theorem enters101 : Enters 101 := enters_of Tryz.func101 (by kernel_rfl) (by kernel_rfl)

/-- One byte as a string. -/
theorem conv_one (W : World) (g : Nat) (c : UInt8) (h : W.cell? ⟨g, 0, none⟩ = some (.int .u8 (c.toNat : Int))) :
    (convert 43 9 (.slice (some ⟨g, 0, none⟩) 1 1)).run Tryz.prog W = .ok (.string ⟨#[c]⟩) W :=
  run_convert_bytes_back W 43 9 5 ⟨g, 0, none⟩ 1 [c] Tryz.underlying43 Tryz.underlying5 Tryz.underlying9 (fun j hj => by
    have : j = 0 := by simpa using hj
    subst this
    simpa [Addr.add] using h)

theorem new_cell {b : Nat} {w1 w2 : World} {v : Value} {t : TypeId} (hk : Keeps [b] (w1.alloc (.cells #[v] t)).drew w2) (hb : b < w1.heap.size) : w2.cell? ⟨w1.heap.size, 0, none⟩ = some v := by
  have h1 : (w1.alloc (.cells #[v] t)).drew.heap[w1.heap.size]? = some (.cells #[v] t) := heap_alloc_new w1 _
  have h2 : w2.heap[w1.heap.size]? = some (.cells #[v] t) := by
    rw [hk.block _ (by show w1.heap.size < (w1.alloc _).heap.size; simp) (by simp; omega)]
    exact h1
  exact cell_of_one h2

/-- A pair of strings lies in a block. -/
def IsPair (w : World) (g : Nat) (x y : ByteArray) : Prop := w.heap[g]? = some (.cells #[.string x, .string y] 83 (0, 0))
theorem IsPair.lt {w : World} {g : Nat} {x y : ByteArray} (h : IsPair w g x y) : g < w.heap.size := lt_of_block h
theorem IsPair.keeps {S : List Nat} {w w' : World} {g : Nat} {x y : ByteArray} (h : IsPair w g x y) (hk : Keeps S w w') (hg : g ∉ S) : IsPair w' g x y := by
  rw [IsPair, hk.block g h.lt hg]; exact h
theorem IsPair.cell0 {w : World} {g : Nat} {x y : ByteArray} (h : IsPair w g x y) : w.cell? ⟨g, 0, none⟩ = some (.string x) := by
  simp [World.cell?, IsPair] at h ⊢; simp [h]
theorem IsPair.cell1 {w : World} {g : Nat} {x y : ByteArray} (h : IsPair w g x y) : w.cell? ⟨g, 1, none⟩ = some (.string y) := by
  simp [World.cell?, IsPair] at h ⊢; simp [h]
theorem IsPair.free {w : World} {g : Nat} {x y : ByteArray} (h : IsPair w g x y) (j : Nat) : w.frozen? ⟨g, j, none⟩ = false := by
  simp [World.frozen?, IsPair] at h ⊢; simp [h]
theorem IsPair.set1 {w : World} {g : Nat} {x y : ByteArray} (h : IsPair w g x y) (z : ByteArray) : IsPair (w.setCell ⟨g, 1, none⟩ (.string z)) g x z := by
  simp [World.setCell, IsPair, Array.getElem?_modify] at h ⊢; simp [h]
theorem IsPair.set0 {w : World} {g : Nat} {x y : ByteArray} (h : IsPair w g x y) (z : ByteArray) : IsPair (w.setCell ⟨g, 0, none⟩ (.string z)) g z y := by
  simp [World.setCell, IsPair, Array.getElem?_modify] at h ⊢; simp [h]

theorem app_lists (c : UInt8) (L : List UInt8) : (⟨#[c]⟩ : ByteArray) ++ ⟨L.toArray⟩ = ⟨(c :: L).toArray⟩ := WideShapes.bytes_inj (by simp)

theorem keeps_drew {S : List Nat} {w w' : World} (h : Keeps S w.drew w') : Keeps S w w' := ⟨h.os, h.tape, h.output, h.size, h.block⟩
theorem keeps_alloc {S : List Nat} {w w' : World} {o : Obj} (h : Keeps S (w.alloc o) w') : Keeps S w w' := ((Keeps.refl S w).alloc o).trans h

theorem IsText.set_other {w : World} {b : Nat} {s : ByteArray} {k : Nat} (h : IsText w b s k) {p : Addr} (hp : p.block ≠ b) (u : Value) : IsText (w.setCell p u) b s k :=
  h.keeps ((Keeps.refl [p.block] w).setCell (.inl (by simp)) u) (by simpa using Ne.symm hp)
theorem IsPair.set_other {w : World} {g : Nat} {x y : ByteArray} (h : IsPair w g x y) {p : Addr} (hp : p.block ≠ g) (u : Value) : IsPair (w.setCell p u) g x y :=
  h.keeps ((Keeps.refl [p.block] w).setCell (.inl (by simp)) u) (by simpa using Ne.symm hp)

theorem valL_le {l v : List UInt8} {m : Nat} (h : valL l = some (v, m)) : v.length ≤ l.length := by
  unfold valL at h
  split at h
  · simp at h
  · rename_i c r
    split at h
    · split at h
      · simp only [Option.some.injEq, Prod.mk.injEq] at h
        have := (List.takeWhile_sublist (l := r) (p := (· != c))).length_le
        rw [← h.1]; simp; omega
      · simp at h
    · simp only [Option.some.injEq, Prod.mk.injEq] at h
      rw [← h.1]
      exact (List.takeWhile_sublist _).length_le

theorem str_list (l : List UInt8) : (⟨l.toArray⟩ : ByteArray).data.toList = l := rfl
theorem str_size (l : List UInt8) : (⟨l.toArray⟩ : ByteArray).size = l.length := rfl

set_option maxRecDepth 4000 in
set_option maxHeartbeats 4000000 in
/-- attr, where a byte is there: k2 is the place behind the name and white bytes, k3 the place behind a = and white bytes. -/
theorem attr_try (r b : Nat) (rawv outv : Value) (s : ByteArray) (k : Nat) (w : World) (hs : s.size ≤ 3000) (hR : IsReader w r b rawv outv) (hT : IsText w b s k) (hlt : k < s.size)
    (L : List UInt8) (hL : (s.data.toList.drop (k + 1)).takeWhile attrN = L) (W1 : List UInt8) (hW1 : (s.data.toList.drop (k + 1 + L.length)).takeWhile whiteB = W1) (k2 : Nat) (hk2 : k2 = k + 1 + L.length + W1.length)
    (W2 : List UInt8) (hW2 : (s.data.toList.drop (k2 + 1)).takeWhile whiteB = W2) (k3 : Nat) (hk3 : k3 = k2 + 1 + W2.length) :
    Calls Tryz.prog 103 #[.pointer (some ⟨r, 0, none⟩)] w fun e w' =>
      ((s.size ≤ k2 ∧ e = .panicked gave ∧ ∃ j, IsText w' b s j) ∨
       (k2 < s.size ∧ byteAt s k2 ≠ 61 ∧ e = .returned (.agg #[.string ⟨(lowerL (byteAt s k :: L)).toArray⟩, .string ⟨#[]⟩]) ∧ IsText w' b s k2) ∨
       (k2 < s.size ∧ byteAt s k2 = 61 ∧ valL (s.data.toList.drop k3) = none ∧ e = .panicked gave ∧ ∃ j, IsText w' b s j) ∨
       (k2 < s.size ∧ byteAt s k2 = 61 ∧ ∃ v m, valL (s.data.toList.drop k3) = some (v, m) ∧ e = .returned (.agg #[.string ⟨(lowerL (byteAt s k :: L)).toArray⟩, .string ⟨(takeL v).1.toArray⟩]) ∧ IsText w' b s (k3 + m))) ∧ Keeps [b] w w' := by
  have hne := hR.ne hT
  have hbw := hT.lt
  have ca : ∀ o, (w.alloc o).cell? ⟨r, 0, none⟩ = some (.pointer (some ⟨b, 0, none⟩)) := fun o => (cell_past (a := ⟨r, 0, none⟩) hR.lt o).trans hR.cell0
  have hp := hide (fun w hT => pass_of 107 attrN enters107 attrN_any b s (k + 1) w hs hT (by omega))
  have hLl := takeWhile_le attrN s (k + 1) (by omega)
  rw [hL] at hp hLl
  have hp1 := hide (fun w hT => pass_of 101 whiteB enters101 white_any b s (k + 1 + L.length) w hs hT (by omega))
  have hLl1 := takeWhile_le whiteB s (k + 1 + L.length) (by omega)
  rw [hW1, ← hk2] at hp1 hLl1
  have hp2 := hide (fun w hT h => pass_of 101 whiteB enters101 white_any b s (k2 + 1) w hs hT h)
  have hLl2 := fun h => takeWhile_le whiteB s (k2 + 1) h
  rw [hW2, ← hk3] at hp2 hLl2
  have hLL : (byteAt s k :: L).length = L.length + 1 := rfl
  have hlow := hide (fun w (h : (byteAt s k :: L).length ≤ 3000) => lower_any ⟨(byteAt s k :: L).toArray⟩ w h)
  rw [str_list] at hlow
  generalize hNN : lowerL (byteAt s k :: L) = NN at *
  clear hNN
  have HV := hide (fun (w : World) hR hT => value_any r b rawv outv s k3 w hs hR hT)
  have hvl := hide (fun v m (h : valL (s.data.toList.drop k3) = some (v, m)) => Nat.le_trans (valL_le h) (show (s.data.toList.drop k3).length ≤ 3000 by have := len_size s; rw [List.length_drop]; omega))
  generalize valL (s.data.toList.drop k3) = V at *
  have hsum : ¬ 9223372036854775807 < 1 + L.length := by omega
  clear hL hW1 hW2 hk2 hk3
  go_enter Tryz.func103, Tryz.ntmps103
  go_wp2_with fail
  have hres0 : IsPair (w.alloc (.cells #[.string ⟨#[]⟩, .string ⟨#[]⟩] 83)) w.heap.size ⟨#[]⟩ ⟨#[]⟩ := heap_alloc_new w _
  refine (one_yes b s k _ hs (hT.keeps ((Keeps.refl [] w).alloc _) (by simp)) hlt).mono ?_
  rintro e w1 ⟨rfl, hT1, hk1⟩
  have hR1 := (hR.keeps ((Keeps.refl [] w).alloc _) (by simp)).keeps hk1 (by simpa using hne)
  have hres1 := hres0.keeps hk1 (by simp; omega)
  have hw1 : Keeps [b] w w1 := ((Keeps.refl [b] w).alloc _).trans hk1
  have c1 := hR1.cell0
  have c1a : ∀ o, (w1.alloc o).cell? ⟨r, 0, none⟩ = some (.pointer (some ⟨b, 0, none⟩)) := fun o => (cell_past (a := ⟨r, 0, none⟩) hR1.lt o).trans c1
  have hb1 := hT1.lt
  have hcv := fun (W : World) (g : Nat) => conv_one W g (byteAt s k)
  clear ca
  go_upto_region 2 with fail
  go_cut [4] from 11 to 19 (fun u wc => u = .string ⟨(byteAt s k :: L).toArray⟩ ∧ IsText wc b s (k + 1 + L.length) ∧ Keeps [b] w1 wc)
  case first =>
    go_region_law (refine step_call rfl 73 _ _ rfl enters73 #[.pointer (some ⟨b, 0, none⟩), .func (.func 107) #[] #[]] (by simp [Act.eval]) (hp.out _ (by first | exact hT1 | exact hT1.keeps ((Keeps.refl [] w1).alloc _).drew List.not_mem_nil)) ?_; rintro e w2 ⟨rfl, hT2, hk2⟩; refine ⟨_, rfl, ?_⟩; try have hnw := new_cell hk2 hb1)
    all_goals go_wp2
    all_goals go_meet
    all_goals refine ⟨by rw [app_lists], by first | exact hT2 | exact hT2.keeps ((Keeps.refl [] _).alloc _) List.not_mem_nil, ?_⟩
    all_goals first
      | exact keeps_drew hk2
      | exact keeps_alloc (keeps_drew hk2)
      | exact (keeps_drew hk2).alloc _
  case rest =>
    obtain ⟨rfl, hTc, hkc⟩ := hcut
    go_wp2_with fail
    refine (hlow.out _ (by omega)).mono ?_
    rintro e w3 ⟨rfl, hk3'⟩
    have hRc := hR1.keeps hkc (by simpa using hne)
    have hR3 := hRc.keeps hk3' List.not_mem_nil
    have hT3 := hTc.keeps hk3' List.not_mem_nil
    have hres3 := (hres1.keeps hkc (by simp; omega)).keeps hk3' List.not_mem_nil
    have hw3 : Keeps [b] w w3 := (hw1.trans hkc).trans (hk3'.to (by simp))
    have c3a : ∀ o, (w3.alloc o).cell? ⟨r, 0, none⟩ = some (.pointer (some ⟨b, 0, none⟩)) := fun o => (cell_past (a := ⟨r, 0, none⟩) hR3.lt o).trans hR3.cell0
    clear c1 c1a hcv hlow hp
    go_wp2_with fail
    have ha3 : Keeps [] w3 (w3.alloc (Obj.cells #[Value.string { data := NN.toArray }, Value.string { data := #[] }] 83)) := (Keeps.refl [] w3).alloc _
    have hA4 : IsPair (w3.alloc (Obj.cells #[Value.string { data := NN.toArray }, Value.string { data := #[] }] 83)) w3.heap.size ⟨NN.toArray⟩ ⟨#[]⟩ := heap_alloc_new w3 _
    refine (hp1.out _ (hT3.keeps ha3 List.not_mem_nil)).mono ?_
    rintro e w5 ⟨rfl, hT5, hk5⟩
    have hb3 := hT3.lt
    have hA5 := hA4.keeps hk5 (by simp; omega)
    have hres5 := (hres3.keeps ha3 List.not_mem_nil).keeps hk5 (by simp; omega)
    have hR5 := (hR3.keeps ha3 List.not_mem_nil).keeps hk5 (by simpa using hne)
    have hw5 : Keeps [b] w w5 := (hw3.trans (ha3.to (by simp))).trans hk5
    have hsz3 := hw3.size
    have hb5 := hT5.lt
    have hA5' := hA5.lt
    have hres5' := hres5.lt
    have hgg : w3.heap.size ≠ w.heap.size := by have := hres3.lt; omega
    have hbg : b ≠ w3.heap.size := by omega
    generalize w3.heap.size = g at *
    clear c3a hA4 ha3 hR3 hT3 hres3 hk5 hkc hRc hTc
    have c5 := hR5.cell0
    by_cases hend : s.size ≤ k2
    · go_wp2_with fail
      refine (peekN b s k2 _ hT5 hend).mono ?_
      rintro e w6 ⟨rfl, hT6, hk6⟩
      go_wp2_with fail
      exact ⟨rfl, .inl ⟨hend, rfl, _, hT6⟩, hw5.trans (hk6.to (by simp))⟩
    · have hlt2 : k2 < s.size := by omega
      go_wp2_with fail
      refine (peekY b s k2 _ hT5 hlt2).mono ?_
      rintro e w6 ⟨rfl, hT6, hk6⟩
      have hA6 := hA5.keeps hk6 List.not_mem_nil
      have hres6 := hres5.keeps hk6 List.not_mem_nil
      have hR6 := hR5.keeps hk6 List.not_mem_nil
      have hw6 : Keeps [b] w w6 := hw5.trans (hk6.to (by simp))
      have ha0 := hA6.cell0
      have ha1 := hA6.cell1
      have hr0 := hres6.cell0
      have hr1 := hres6.cell1
      have hf := hres6.free
      have c6 := hR6.cell0
      clear c5 hA5 hres5 hR5 hT5 hk6
      by_cases heq : byteAt s k2 = 61
      · have hbq : (((byteAt s k2).toNat : Int) == 61) = true := by rw [heq]; rfl
        go_wp2_with fail
        refine (one_yes b s k2 _ hs hT6 hlt2).mono ?_
        rintro e w7 ⟨rfl, hT7, hk7⟩
        have hA7 := hA6.keeps hk7 (by simpa using Ne.symm hbg)
        have hres7 := hres6.keeps hk7 (by simp; omega)
        have hR7 := hR6.keeps hk7 (by simpa using hne)
        have hw7 : Keeps [b] w w7 := hw6.trans hk7
        have c7 := hR7.cell0
        clear c6 ha0 ha1 hr0 hr1 hf hA6 hres6 hR6 hT6
        go_wp2_with fail
        refine (hp2.out _ hT7 (by omega)).mono ?_
        rintro e w8 ⟨rfl, hT8, hk8⟩
        have hA8 := hA7.keeps hk8 (by simpa using Ne.symm hbg)
        have hres8 := hres7.keeps hk8 (by simp; omega)
        have hR8 := hR7.keeps hk8 (by simpa using hne)
        have hw8 : Keeps [b] w w8 := hw7.trans hk8
        have c8 := hR8.cell0
        clear c7 hA7 hres7 hR7 hT7
        go_wp2_with fail
        refine (HV.out _ hR8 hT8).mono ?_
        rintro e w9 ⟨⟨v, m, hv, rfl, hT9⟩ | ⟨hv, rfl, j, hT9⟩, hk9⟩
        · have hA9 := hA8.keeps hk9 (by simpa using Ne.symm hbg)
          have hres9 := hres8.keeps hk9 (by simp; omega)
          have hw9 : Keeps [b] w w9 := hw8.trans hk9
          clear c8 hA8 hres8 hR8 hT8
          go_wp2_with fail
          refine (tak_any ⟨v.toArray⟩ _ (hvl.out v m hv)).mono ?_
          rw [str_list]
          rintro e wA ⟨rfl, hkA⟩
          have hAA := hA9.keeps hkA List.not_mem_nil
          have hresA := hres9.keeps hkA List.not_mem_nil
          have hTA := hT9.keeps hkA List.not_mem_nil
          have hwA : Keeps [b] w wA := hw9.trans (hkA.to (by simp))
          clear hA9 hres9 hT9
          have fA := hAA.free
          have hc1 := hAA.cell1
          have hc0 := hAA.cell0
          have hAB := hAA.set1 ⟨(takeL v).1.toArray⟩
          have hresB := hresA.set_other (p := ⟨g, 1, none⟩) hgg (.string ⟨(takeL v).1.toArray⟩)
          have hTB := hTA.set_other (p := ⟨g, 1, none⟩) (Ne.symm hbg) (.string ⟨(takeL v).1.toArray⟩)
          have hwB : Keeps [b] w (wA.setCell ⟨g, 1, none⟩ (.string ⟨(takeL v).1.toArray⟩)) := hwA.setCell (.inr (by show w.heap.size ≤ g; omega)) _
          have ha0 := hAB.cell0
          have ha1 := hAB.cell1
          have hf := hresB.free
          have hB0 := hresB.cell0
          have hB1 := hresB.cell1
          have hB0' := hresA.cell0
          have hB1' := hresA.cell1
          have hfA := hresA.free
          go_wp2_with fail
          refine bodyPost_ret (v := .agg #[.string ⟨NN.toArray⟩, .string ⟨(takeL v).1.toArray⟩]) ?_ rfl ?_
          · have q := (hresB.set0 ⟨NN.toArray⟩).set1 ⟨(takeL v).1.toArray⟩
            have q0 := q.cell0
            have q1 := q.cell1
            generalize (((wA.setCell ⟨g, 1, none⟩ (.string ⟨(takeL v).1.toArray⟩)).setCell { block := w.heap.size, off := 0 } (Value.string { data := NN.toArray })).setCell { block := w.heap.size, off := 1 } (Value.string ⟨(takeL v).1.toArray⟩)) = wF at *
            simp [results, Tryz.results103, go_sem, q0, q1]
          · exact ⟨.inr (.inr (.inr ⟨hlt2, heq, v, m, hv, rfl, (hTB.set_other (by show w.heap.size ≠ b; omega) _).set_other (by show w.heap.size ≠ b; omega) _⟩)), (hwB.setCell (.inr (Nat.le_refl _)) _).setCell (.inr (Nat.le_refl _)) _⟩
        · clear c8
          go_wp2_with fail
          exact ⟨rfl, .inr (.inr (.inl ⟨hlt2, heq, hv, rfl, j, hT9⟩)), hw8.trans hk9⟩
      · have hbq : (((byteAt s k2).toNat : Int) == 61) = false := by
          rw [← beq_at (d := 61) (k := 61) rfl]; simpa using heq
        go_wp2_with fail
        refine bodyPost_ret (v := .agg #[.string ⟨NN.toArray⟩, .string ⟨#[]⟩]) ?_ rfl ?_
        · have q := (hres6.set0 ⟨NN.toArray⟩).set1 ⟨#[]⟩
          have q0 := q.cell0
          have q1 := q.cell1
          generalize ((w6.setCell { block := w.heap.size, off := 0 } (Value.string { data := NN.toArray })).setCell { block := w.heap.size, off := 1 } (Value.string { data := #[] })) = wF at *
          simp [results, Tryz.results103, go_sem, q0, q1]
        · exact ⟨.inr (.inl ⟨hlt2, heq, rfl, (hT6.set_other (by show w.heap.size ≠ b; omega) _).set_other (by show w.heap.size ≠ b; omega) _⟩), (hw6.setCell (.inr (Nat.le_refl _)) _).setCell (.inr (Nat.le_refl _)) _⟩
end Go.Proofs.YtngojdajamgababGreat

/- Tree and Is of package clean. printText, of a text that may be longer than one that is read. printOpen and Print, of tokens of bulk up to a million. Html of package clean. Is markup clean, and just as a clean tree is printed? Is a link safe? Shelves, as functions: what is put stands once, in order; what is marked twice is as it was. -/
import Derived.Test.YtlcljanibjdejaaGreatSo18
namespace Go.Proofs.YtlcljanibjdejaaGreat
open Go.RowKit Go.Maps
set_option maxHeartbeats 1000000 in
theorem walkE_any (w : World) (P : Nat → Prop) (v : Value) (ns : List Nd) (h : Ns w P v ns) (hM : HasMax w) (hsz : sizeNs ns ≤ 2000000) (hV : ValNs ns) :
    Calls Tryz.prog 87 #[v, .func (.func 88) #[] #[]] w fun e w' => (isE ns = 0 ∧ e = .returned (.bool true) ∨ isE ns ≠ 0 ∧ e = .panicked (stopped (isE ns))) ∧ Keeps [] w w' := by
  have hc := hide (walkE_all (fun g => g < w.heap.size) w.heap.size hM.pos (fun _ h => h) w v ns h.lt w [] (Keeps.refl _ _) (fun _ _ => List.not_mem_nil) hM (.slice none 0 0) [] (World.ownsRow_nil _ _ _ _) (Nat.le_refl _) (by simpa using hsz) hV)
  obtain ⟨o, c, hv⟩ := h.form
  subst hv
  clear h hV
  generalize isE ns = E at *
  go_enter Tryz.func87, Tryz.ntmps87
  go_wp2_with fail
  refine hc.out.mono ?_
  rintro e w1 ⟨⟨hE, rfl⟩ | ⟨hE, rfl⟩, _, hk⟩
  · have hk' : Keeps [] w w1 := hk.mono (fun g hg _ => by simp [Value.ownBlock] at hg)
    go_wp2_with fail
    go_ret
    first | exact ⟨.inl ⟨hE, rfl⟩, hk'⟩ | exact ⟨.inl ⟨trivial, rfl⟩, hk'⟩
  · exact ⟨rfl, .inr ⟨hE, rfl⟩, hk.mono (fun g hg _ => by simp [Value.ownBlock] at hg)⟩
theorem enters86 : Enters 86 := enters_of Tryz.func86 (by kernel_rfl) (by kernel_rfl)
set_option maxHeartbeats 1000000 in
theorem is1_any (b : Nat) (w : World) (P : Nat → Prop) (v : Value) (ns : List Nd) (h : Ns w P v ns) (hb : w.heap[b]? = some (.cells #[v] 29 (0, 0))) (hM : HasMax w) (hsz : sizeNs ns ≤ 2000000) (hV : ValNs ns) :
    Calls Tryz.prog 86 #[.pointer (some ⟨b, 0, none⟩)] w fun e w' => (isE ns = 0 ∧ e = .returned (.tuple #[]) ∨ isE ns ≠ 0 ∧ e = .panicked (stopped (isE ns))) ∧ Keeps [] w w' := by
  have hc := hide (walkE_any w P v ns h hM hsz hV)
  obtain ⟨o, c, hv⟩ := h.form
  subst hv
  clear h hV
  have c0 : w.cell? ⟨b, 0, none⟩ = some (.slice o ns.length c) := cell_blk hb 0
  generalize isE ns = E at *
  go_enter Tryz.func86, Tryz.ntmps86
  go_wp2_with fail
  refine hc.out.mono ?_
  rintro e w1 ⟨⟨hE, rfl⟩ | ⟨hE, rfl⟩, hk⟩
  · go_wp2_with fail
    go_end0
    first | exact ⟨.inl ⟨hE, rfl⟩, hk⟩ | exact ⟨.inl ⟨trivial, rfl⟩, hk⟩
  · exact ⟨rfl, .inr ⟨hE, rfl⟩, hk⟩
set_option maxHeartbeats 2000000 in
theorem cleanIs_any (w : World) (P : Nat → Prop) (v : Value) (ns : List Nd) (h : Ns w P v ns) (hM : HasMax w) (hsz : sizeNs ns ≤ 2000000) (hF : FitsNs ns) (hV : ValNs ns) :
    Calls Tryz.prog 20 #[v] w fun e w' => e = .returned (.tuple #[.bool (decide (chkTree ns = 0) && decide (isE ns = 0)), .int .i64 (chkTree ns)]) ∧ Keeps [] w w' := by
  have hn := hide h
  obtain ⟨o, c, hv⟩ := h.form
  subst hv
  obtain ⟨W, hW⟩ : ∃ W, w.alloc (.cells #[.slice o ns.length c] 29) = W := ⟨_, rfl⟩
  have hkW : Keeps [] w W := by rw [← hW]; exact (Keeps.refl [] w).alloc _
  have hb : W.heap[w.heap.size]? = some (.cells #[.slice o ns.length c] 29 (0, 0)) := by rw [← hW]; exact heap_alloc_new w _
  have c0 : W.cell? ⟨w.heap.size, 0, none⟩ = some (.slice o ns.length c) := cell_blk hb 0
  have nn : ∀ g, g ∉ ([] : List Nat) := fun _ => List.not_mem_nil
  have hck := hide (treeCheck_any W P _ ns (h.keeps0 hkW) hsz hF)
  have HB := hide hb
  have hmf : ∀ (fn : Fn) (first cap : Array Value) (w : World), (Instr.makeFunc fn first cap).run Tryz.prog w = .ok (.func fn first cap) w := fun _ _ _ _ => rfl
  have hca := hide (fun (w1 : World) (hk1 : Keeps [] W w1) => caught_any 86 #[.pointer (some ⟨w.heap.size, 0, none⟩)] (fun _ => isE ns = 0) (fun x _ => isE ns ≠ 0 ∧ x ≠ 0) [] w1 enters86 (fun _ h => absurd h (nn _)) (fun _ _ _ h _ => h) (fun _ _ _ _ h _ => h)
    (fun w2 hk2 _ => (is1_any w.heap.size w2 P _ ns (((hn.out.keeps0 hkW).keeps0 hk1).keeps0 hk2) (((hk1.trans hk2).block _ (lt_of_block HB.out) (nn _)).trans HB.out) (hM.keeps ((hkW.trans hk1).trans hk2) (nn _)) hsz hV).mono (fun e w3 h => ⟨h.1.elim (fun h => .inl ⟨h.2, h.1⟩) (fun h => .inr ⟨_, h.2, h.1, h.1⟩), h.2⟩)))
  clear h hb hF hV
  generalize chkTree ns = C at *
  by_cases hC : C = 0
  · subst hC
    generalize isE ns = E at *
    go_enter Tryz.func20, Tryz.ntmps20
    go_wp2_with fail
    refine hck.out.mono ?_
    rintro e w1 ⟨rfl, hk1⟩
    clear c0
    go_wp2_with fail
    refine (hca.out w1 hk1).mono ?_
    rintro e w2 ⟨⟨rfl, hE⟩ | ⟨x, rfl, hE, hx⟩, hk2⟩
    · go_wp2_with fail
      go_ret2
      exact ⟨by simp [hE], (hkW.trans hk1).trans hk2⟩
    · have hxb : (x == 0) = false := by simpa using hx
      clear hx
      go_wp2_with fail
      go_ret2
      exact ⟨by simp [hE], (hkW.trans hk1).trans hk2⟩
  · have hCb : (C != 0) = true := by simpa using hC
    have hd : decide (C = 0) = false := by simpa using hC
    rw [hd]
    clear hca hC
    go_enter Tryz.func20, Tryz.ntmps20
    go_wp2_with fail
    refine hck.out.mono ?_
    rintro e w1 ⟨rfl, hk1⟩
    clear c0
    go_wp2_with fail
    go_ret2
    exact ⟨by simp, hkW.trans hk1⟩
end Go.Proofs.YtlcljanibjdejaaGreat
namespace Go.Proofs.YtlcljanibjdejaaGreat
open Go.RowKit Go.Maps
theorem putL_app (a b : List UInt8) : putL (a ++ b) = putL a ++ putL b := by simp [putL]
theorem putL_take (t : List UInt8) (k m : Nat) : putL (t.take (k + m)) = putL (t.take k) ++ putL ((t.drop k).take m) := by
  rw [List.take_add, putL_app]
set_option maxRecDepth 4000 in
set_option maxHeartbeats 2000000 in
theorem printText_all (B b : Nat) (l t : List UInt8) (w : World) (h : IsBld B b l w) (hBw : B ≤ w.heap.size) (ht : t.length ≤ 38000000) (hl : l.length ≤ 700000000) :
    Calls Tryz.prog 142 #[.pointer (some ⟨b, 0, none⟩), .string ⟨t.toArray⟩] w fun e w' => e = .returned (.tuple #[]) ∧ IsBld B b (l ++ putL t) w' ∧ KeepsB B b w w' := by
  go_enter Tryz.func142, Tryz.ntmps142
  go_wp2_with fail
  go_loopg [1] (t.length + 1) (fun g v wr => ∃ (k : Nat) (X : ByteArray), k ≤ t.length ∧ t.length + 1 ≤ g + k ∧ v = .string X ∧ Hid (X.data.toList = t.drop k) ∧ X.size + k = t.length ∧ IsBld B b (l ++ putL (t.take k)) wr ∧ KeepsB B b w wr)
  case atStart => exact ⟨0, ⟨t.toArray⟩, Nat.zero_le _, by omega, rfl, rfl, rfl, by simpa [putL] using h, KeepsB.refl _ _ _⟩
  case round =>
    obtain ⟨k, X, hk, hg, rfl, hX, hXs, hbk, hkw⟩ := hrel
    by_cases hz : X.size = 0
    · have hkt : k = t.length := by omega
      have htk : t.take k = t := List.take_of_length_le (by omega)
      rw [htk] at hbk
      clear hkt htk
      have hgt : decide ((0 : Int) < (X.size : Int)) = false := by rw [hz]; rfl
      go_wp2_with fail
      go_end0
      exact ⟨rfl, hbk, hkw⟩
    · obtain ⟨f, rfl⟩ : ∃ f, gk = f + 1 := ⟨gk - 1, by omega⟩
      obtain ⟨m, hm⟩ : ∃ m, m = min X.size 3000 := ⟨_, rfl⟩
      have hm1 : 1 ≤ m := by omega
      have hm2 : m ≤ X.size := by omega
      have hm3 : m ≤ 3000 := by omega
      have hmin : min (X.size : Int) 3000 = (m : Int) := by omega
      have hgt : decide ((0 : Int) < (X.size : Int)) = true := by simp; omega
      have hpos : 0 < X.size := by omega
      clear hm
      have hPd : (X.extract 0 m).data.toList = (t.drop k).take m := by
        rw [Lib.extract_data, hX.out]
        simp
      have hPl : ((t.drop k).take m).length = m := by
        have := len_size X
        rw [hX.out] at this
        rw [List.length_take, this]
        omega
      have hRd : (X.extract m X.size).data.toList = t.drop (k + m) := by
        rw [Lib.extract_to_end, hX.out, List.drop_drop]
      have hRs : (X.extract m X.size).size + (k + m) = t.length := by simp; omega
      have hPs : (X.extract 0 m).size = m := by simp; omega
      have hput := hide (fun w => put_any (X.extract 0 m) w (by unfold maxLen; omega))
      have hans : putAns (X.extract 0 m).data.toList = (putL ((t.drop k).take m), 0) := by
        unfold putAns
        rw [hPd, if_neg (by omega)]
      rw [hans] at hput
      have hpl1 := putL_le (t.take k)
      have hpl2 := putL_le ((t.drop k).take m)
      have htl : (t.take k).length ≤ 38000000 := by rw [List.length_take]; omega
      have hwr := hide (fun (w : World) h hB => write_all B b (l ++ putL (t.take k)) (putL ((t.drop k).take m)) w h (by rw [List.length_append]; omega) hB)
      have HT := hide (putL_take t k m)
      have HRd := hide hRd
      have hBr := Nat.le_trans hBw hkw.size
      clear hPd hRd hPl hans hpl1 hpl2 htl
      generalize putL ((t.drop k).take m) = T at *
      generalize putL (t.take k) = Y at *
      go_wp2_with fail
      refine (hput.out _).mono ?_
      rintro e w2 ⟨rfl, hk2⟩
      unfold two
      go_wp2_with fail
      refine (hwr.out _ (hbk.keeps hk2) (Nat.le_trans hBr hk2.size)).mono ?_
      rintro e w3 ⟨rfl, hb3, hk3⟩
      have hb3' : IsBld B b (l ++ putL (t.take (k + m))) w3 := by rw [HT.out, ← List.append_assoc]; exact hb3
      have hkw3 : KeepsB B b w w3 := (hkw.trans (KeepsB.of hk2)).trans hk3
      go_wp2_with fail
      go_roundg f
      case measure => omega
      case rel => exact ⟨k + m, X.extract m X.size, by omega, by omega, rfl, HRd, hRs, hb3', hkw3⟩
end Go.Proofs.YtlcljanibjdejaaGreat
namespace Go.Proofs.YtlcljanibjdejaaGreat
open Go.RowKit Go.Maps
theorem bulkP_mem {l : List Pair} {p : Pair} (h : p ∈ l) : p.1.length + p.2.length + 2 ≤ bulkP l := by
  induction l with
  | nil => simp at h
  | cons a l ih =>
    have e : bulkP (a :: l) = (a.1.length + a.2.length + 2) + bulkP l := by simp [bulkP]
    rcases List.mem_cons.1 h with rfl | h
    · omega
    · have := ih h; omega
theorem bulkP_len1 (l : List Pair) : l.length ≤ bulkP l := by
  induction l with
  | nil => simp
  | cons a l ih =>
    have e : bulkP (a :: l) = (a.1.length + a.2.length + 2) + bulkP l := by simp [bulkP]
    simp only [List.length_cons]; omega
theorem pairP_le8 (p : Pair) : (pairP p).length ≤ 8 * (p.1.length + p.2.length + 2) := by
  have := putL_le p.2
  simp [pairP]
  omega
theorem pairsP_le8 (l : List Pair) (k : Nat) : (pairsP (l.take k)).length ≤ 8 * bulkP l := by
  induction l generalizing k with
  | nil => simp [pairsP]
  | cons a l ih =>
    cases k with
    | zero => simp [pairsP]
    | succ k =>
      have e : bulkP (a :: l) = (a.1.length + a.2.length + 2) + bulkP l := by simp [bulkP]
      have e2 : pairsP ((a :: l).take (k + 1)) = pairP a ++ pairsP (l.take k) := by simp [pairsP]
      have h1 := pairP_le8 a
      have h2 := ih k
      rw [e2, List.length_append]
      omega
theorem tokP_le8 (t : Tok) : (tokP t).length ≤ 8 * bulkT t := by
  have h1 := pairsP_le8 t.attrs t.attrs.length
  rw [List.take_length] at h1
  have h2 := putL_le t.text
  unfold tokP bulkT
  split
  · omega
  · split
    · simp [openP]; omega
    · simp; omega
theorem toksP_le8 (l : List (Tok × Value)) (k : Nat) : (toksP ((l.take k).map (·.1))).length ≤ 8 * bulkL (l.map (·.1)) := by
  induction l generalizing k with
  | nil => simp [toksP]
  | cons a l ih =>
    cases k with
    | zero => simp [toksP]
    | succ k =>
      have e : bulkL ((a :: l).map (·.1)) = bulkT a.1 + bulkL (l.map (·.1)) := by simp [bulkL]
      have e2 : toksP (((a :: l).take (k + 1)).map (·.1)) = tokP a.1 ++ toksP ((l.take k).map (·.1)) := by simp [toksP]
      have h1 := tokP_le8 a.1
      have h2 := ih k
      rw [e2, List.length_append]
      omega
set_option maxRecDepth 4000 in
set_option maxHeartbeats 4000000 in
theorem printOpen_all (w0 : World) (B b : Nat) (l : List UInt8) (kd : Int) (nm tx : List UInt8) (la : List Pair) (v : Value) (hv : Lies w0 v la.length 2 (pairCells la)) (w : World) (hw0 : Keeps [] w0 w) (hB0 : w0.heap.size ≤ B) (h : IsBld B b l w) (hBw : B ≤ w.heap.size)
    (hnm : nm.length ≤ 38000000) (hf : bulkP la ≤ 38000000) (hl : l.length ≤ 304000000) :
    Calls Tryz.prog 143 #[.pointer (some ⟨b, 0, none⟩), .agg #[.int .i64 kd, .string ⟨nm.toArray⟩, v, .string ⟨tx.toArray⟩]] w fun e w' => e = .returned (.tuple #[]) ∧ IsBld B b (l ++ openP ⟨kd, nm, la, tx⟩) w' ∧ KeepsB B b w w' := by
  have hla := bulkP_len1 la
  obtain ⟨o, c, rfl, h1, h2⟩ := hv.form
  unfold maxLen at h2
  have ha : Keeps [] w (w.alloc (.cells #[.int .i64 kd, .string ⟨nm.toArray⟩, .slice o la.length c, .string ⟨tx.toArray⟩] 117)) := (Keeps.refl [] w).alloc _
  have hbx : IsTok (w.alloc (.cells #[.int .i64 kd, .string ⟨nm.toArray⟩, .slice o la.length c, .string ⟨tx.toArray⟩] 117)) w.heap.size (⟨kd, nm, la, tx⟩, .slice o la.length c) := heap_alloc_new w _
  have hBb : B ≤ b := by rcases h with h | h <;> exact h.1
  have hbw : b < w.heap.size := by rcases h with ⟨_, v, hb, _⟩ | ⟨_, v, hb, _⟩ <;> exact lt_of_block hb
  have hsum : ¬ 9223372036854775807 < 1 + nm.length := by omega
  have hstr : (⟨#[60]⟩ : ByteArray) ++ ⟨nm.toArray⟩ = ⟨([60] ++ nm).toArray⟩ := app2 [60] nm
  have hw1 := hide (write_all B b l ([60] ++ nm) _ (h.keeps ha) (by simp; omega) (Nat.le_trans hBw ha.size))
  obtain ⟨Z, hZ⟩ : ∃ Z, l ++ ([60] ++ nm) = Z := ⟨_, rfl⟩
  have hZl : Z.length ≤ 342100000 := by rw [← hZ]; simp; omega
  have hfin : l ++ openP ⟨kd, nm, la, tx⟩ = Z ++ pairsP la ++ [62] := by rw [← hZ]; simp [openP]
  rw [hfin]
  rw [hZ] at hw1
  clear hZ hfin
  have hwe := hide (fun (w : World) hb hB => write_all B b (Z ++ pairsP la) [62] w hb (by
    have := pairsP_le8 la la.length
    rw [List.take_length] at this
    simp; omega) hB)
  go_enter Tryz.func143, Tryz.ntmps143
  go_wp2_with fail
  refine hw1.out.mono ?_
  rintro e w2 ⟨rfl, hb2, hk2⟩
  have hbx2 := hk2.tok hbx (by omega)
  have hkw2 : KeepsB B b w w2 := (KeepsB.of ha).trans hk2
  have x2 : w2.cell? ⟨w.heap.size, 2, none⟩ = some (.slice o la.length c) := by rw [hbx2.cell 2]; rfl
  clear hw1 hstr hsum
  go_wp2_with fail
  go_loopw [14] (fun i wr => ∃ k : Nat, k ≤ la.length ∧ i = .int .i64 k ∧ IsBld B b (Z ++ pairsP (la.take k)) wr ∧ KeepsB B b w wr) (fun i _ => la.length - (intOf i).toNat)
  case atStart => exact ⟨0, Nat.zero_le _, rfl, by simpa [pairsP] using hb2, hkw2⟩
  case round =>
    obtain ⟨k, hk, rfl, hbk, hkw⟩ := hrel
    clear hb2 hk2 hbx2 x2
    have hBr := Nat.le_trans hBw hkw.size
    by_cases hlt : k < la.length
    · obtain ⟨g, x, rfl, hc⟩ := (hv.keeps (KeepsB.nil hw0 hkw hB0 hBb)).addr (by omega)
      have a0 := hc _ _ (pair_at0 la k hlt)
      have a1 := hc _ _ (pair_at1 la k hlt)
      rw [← Nat.add_assoc] at a1
      have hfk := bulkP_mem (List.getElem_mem hlt)
      have hpl := pairsP_le8 la k
      have hts := pairsP_take la k hlt
      generalize pairsP (la.take k) = Y at *
      have HTS := hide hts
      clear hts hc
      generalize la[k] = p at *
      obtain ⟨n, v⟩ := p
      simp only at a0 a1 hfk
      have hkA : Keeps [] wr (wr.alloc (.cells #[.string ⟨n.toArray⟩, .string ⟨v.toArray⟩] 52)) := (Keeps.refl [] wr).alloc _
      have hA : IsPair (wr.alloc (.cells #[.string ⟨n.toArray⟩, .string ⟨v.toArray⟩] 52)) wr.heap.size ⟨n.toArray⟩ ⟨v.toArray⟩ := heap_alloc_new wr _
      have hbr : b < wr.heap.size := Nat.lt_of_lt_of_le hbw hkw.size
      have hsum1 : ¬ 9223372036854775807 < 1 + n.length := by omega
      have hsum2 : ¬ 9223372036854775807 < 1 + n.length + 2 := by omega
      have hstr1 : (⟨#[32]⟩ : ByteArray) ++ ⟨n.toArray⟩ = ⟨([32] ++ n).toArray⟩ := app2 [32] n
      have hstr2 : (⟨(32 :: n).toArray⟩ : ByteArray) ++ ⟨#[61, 34]⟩ = ⟨([32] ++ n ++ [61, 34]).toArray⟩ := app2 (32 :: n) [61, 34]
      have hsz1 : (⟨(32 :: n).toArray⟩ : ByteArray).size = 1 + n.length := by rw [str_size]; simp; omega
      have hw3 := hide (write_all B b (Z ++ Y) ([32] ++ n ++ [61, 34]) _ (hbk.keeps hkA) (by simp; omega) (Nat.le_trans hBr hkA.size))
      have hw4 := hide (fun (w : World) hb hB => printText_all B b (Z ++ Y ++ ([32] ++ n ++ [61, 34])) v w hb hB (by omega) (by simp; omega))
      have hpv := putL_le v
      have hw5 := hide (fun (w : World) hb hB => write_all B b (Z ++ Y ++ ([32] ++ n ++ [61, 34]) ++ putL v) [34] w hb (by simp; omega) hB)
      have hY : Z ++ (Y ++ pairP (n, v)) = Z ++ Y ++ ([32] ++ n ++ [61, 34]) ++ putL v ++ [34] := by simp [pairP]
      have HY := hide hY
      clear hY
      go_wp2_with fail
      refine hw3.out.mono ?_
      rintro e w3 ⟨rfl, hb3, hk3⟩
      have hA3 := hk3.pair hA (by omega)
      have y1 := hA3.cell1
      have hB3 := Nat.le_trans (Nat.le_trans hBr hkA.size) hk3.size
      clear hstr1 hstr2 hsz1 a0 a1
      go_wp2_with fail
      refine (hw4.out _ hb3 hB3).mono ?_
      rintro e w4 ⟨rfl, hb4, hk4⟩
      go_wp2_with fail
      refine (hw5.out _ hb4 (Nat.le_trans hB3 hk4.size)).mono ?_
      rintro e w5 ⟨rfl, hb5, hk5⟩
      have hb5' : IsBld B b (Z ++ pairsP (la.take (k + 1))) w5 := by rw [HTS.out, HY.out]; exact hb5
      have hkw5 : KeepsB B b w w5 := (((hkw.trans (KeepsB.of hkA)).trans hk3).trans hk4).trans hk5
      go_wp2_with fail
      go_roundw
      case rel => exact ⟨k + 1, by omega, by go_num, hb5', hkw5⟩
      case measure => simp [intOf]; omega
    · have hall : la.take k = la := List.take_of_length_le (by omega)
      rw [hall] at hbk
      go_wp2_with fail
      refine (hwe.out _ hbk hBr).mono ?_
      rintro e w3 ⟨rfl, hb3, hk3⟩
      go_wp2_with fail
      go_end0
      exact ⟨rfl, hb3, hkw.trans hk3⟩
set_option maxRecDepth 4000 in
set_option maxHeartbeats 4000000 in
theorem print_all (w : World) (v : Value) (ts : List Tok) (hv : Toks w v ts) (hn : bulkL ts ≤ 38000000) (hc : chkL ts = 0) :
    Calls Tryz.prog 69 #[v] w fun e w' => e = .returned (.tuple #[.string ⟨(toksP ts).toArray⟩, .int .i64 0]) ∧ Keeps [] w w' := by
  have hchk := hide (check_any w v ts hv (fun t ht => by
    have h1 := bulkL_mem ht
    unfold bulkT at h1
    exact ⟨by unfold maxLen; omega, fun p hp => by have h2 := bulkP_mem hp; unfold maxLen; omega⟩))
  rw [hc] at hchk
  clear hc
  obtain ⟨l, rfl, hv, hva⟩ := hv
  have hfl : ∀ p ∈ l, bulkT p.1 ≤ bulkL (l.map (·.1)) := fun p hp => bulkL_mem (List.mem_map_of_mem hp)
  obtain ⟨o, c, rfl, h1, h2⟩ := hv.form
  unfold maxLen at h2
  go_enter Tryz.func69, Tryz.ntmps69
  go_wp2_with fail
  refine hchk.out.mono ?_
  rintro e w1 ⟨rfl, hk1⟩
  go_wp2_with fail
  have hb1 := bld_new w1
  have hkb1 : KeepsB w1.heap.size w1.heap.size w1 (w1.alloc (.cells #[.pointer none, .slice none 0 0] 134)) := KeepsB.of ((Keeps.refl [] w1).alloc _)
  have hsz1 : w1.heap.size + 1 ≤ (w1.alloc (.cells #[.pointer none, .slice none 0 0] 134)).heap.size := by simp
  clear hchk
  go_loopw [15] (fun i wr => ∃ k : Nat, k ≤ l.length ∧ i = .int .i64 k ∧ IsBld w1.heap.size w1.heap.size (toksP ((l.take k).map (·.1))) wr ∧ KeepsB w1.heap.size w1.heap.size w1 wr ∧ w1.heap.size + 1 ≤ wr.heap.size) (fun i _ => l.length - (intOf i).toNat)
  case atStart => exact ⟨0, Nat.zero_le _, rfl, by simpa [toksP] using hb1, hkb1, hsz1⟩
  case round =>
    obtain ⟨k, hk, rfl, hbk, hkw, hsz⟩ := hrel
    clear hb1 hkb1 hsz1
    have hK : Keeps [] w wr := KeepsB.nil hk1 hkw hk1.size (Nat.le_refl _)
    by_cases hlt : k < l.length
    · obtain ⟨g, x, rfl, hcc⟩ := (hv.keeps hK).addr (by omega)
      obtain ⟨a0, a1, a2, a3⟩ := lies_tok hcc k hlt
      have hfk := hfl l[k] (List.getElem_mem hlt)
      have hpa := hva l[k] (List.getElem_mem hlt)
      have hpl := toksP_le8 l k
      have HTS := hide (toksP_take l k hlt)
      generalize toksP ((l.take k).map (·.1)) = Y at *
      clear hcc
      generalize l[k] = p at *
      obtain ⟨⟨kp, np, ap, xp⟩, vp⟩ := p
      simp only at a0 a1 a2 a3 hpa hfk
      obtain ⟨op, cp, rfl, hp1, hp2⟩ := hpa.form
      unfold maxLen at hp2
      have hfn : np.length + xp.length + bulkP ap + 4 ≤ bulkL (l.map (·.1)) := hfk
      have hkA : Keeps [] wr (wr.alloc (.cells #[.int .i64 kp, .string ⟨np.toArray⟩, .slice op ap.length cp, .string ⟨xp.toArray⟩] 117)) := (Keeps.refl [] wr).alloc _
      have hA : IsTok (wr.alloc (.cells #[.int .i64 kp, .string ⟨np.toArray⟩, .slice op ap.length cp, .string ⟨xp.toArray⟩] 117)) wr.heap.size (⟨kp, np, ap, xp⟩, .slice op ap.length cp) := heap_alloc_new wr _
      have hBA : w1.heap.size ≤ (wr.alloc (.cells #[.int .i64 kp, .string ⟨np.toArray⟩, .slice op ap.length cp, .string ⟨xp.toArray⟩] 117)).heap.size := by simp; omega
      have hbA := hbk.keeps hkA
      have hkwA := hkw.trans (KeepsB.of hkA)
      by_cases hk1' : kp = 1
      · subst hk1'
        have hpt := hide (printText_all w1.heap.size w1.heap.size Y xp _ hbA hBA (by omega) (by omega))
        have HY := hide (show tokP ⟨1, np, ap, xp⟩ = putL xp from rfl)
        go_wp2_with fail
        refine hpt.out.mono ?_
        rintro e w5 ⟨rfl, hb5, hk5⟩
        have hb5' : IsBld w1.heap.size w1.heap.size (toksP ((l.take (k + 1)).map (·.1))) w5 := by rw [HTS.out, HY.out]; exact hb5
        have hs5 := Nat.le_trans hsz (Nat.le_trans hkA.size hk5.size)
        go_wp2_with fail
        go_roundw
        case rel => exact ⟨k + 1, by omega, by go_num, hb5', hkwA.trans hk5, hs5⟩
        case measure => simp [intOf]; omega
      · have e1 : (kp == 1) = false := by simpa using hk1'
        by_cases hk2' : kp = 2
        · subst hk2'
          have hpt := hide (printOpen_all w w1.heap.size w1.heap.size Y 2 np xp ap _ hpa _ (hK.trans hkA) hk1.size hbA hBA (by omega) (by omega) (by omega))
          have HY := hide (show tokP ⟨2, np, ap, xp⟩ = openP ⟨2, np, ap, xp⟩ from rfl)
          go_wp2_with fail
          refine hpt.out.mono ?_
          rintro e w5 ⟨rfl, hb5, hk5⟩
          have hb5' : IsBld w1.heap.size w1.heap.size (toksP ((l.take (k + 1)).map (·.1))) w5 := by rw [HTS.out, HY.out]; exact hb5
          have hs5 := Nat.le_trans hsz (Nat.le_trans hkA.size hk5.size)
          go_wp2_with fail
          go_roundw
          case rel => exact ⟨k + 1, by omega, by go_num, hb5', hkwA.trans hk5, hs5⟩
          case measure => simp [intOf]; omega
        · have e2 : (kp == 2) = false := by simpa using hk2'
          have HY := hide (show tokP ⟨kp, np, ap, xp⟩ = [60, 47] ++ np ++ [62] from by simp [tokP, hk1', hk2'])
          have hw5 := hide (write_all w1.heap.size w1.heap.size Y ([60, 47] ++ np ++ [62]) _ hbA (by simp; omega) hBA)
          have hsum1 : ¬ 9223372036854775807 < 2 + np.length := by omega
          have hsum2 : ¬ 9223372036854775807 < 2 + np.length + 1 := by omega
          have hstr1 : (⟨#[60, 47]⟩ : ByteArray) ++ ⟨np.toArray⟩ = ⟨([60, 47] ++ np).toArray⟩ := app2 [60, 47] np
          have hstr2 : (⟨(60 :: 47 :: np).toArray⟩ : ByteArray) ++ ⟨#[62]⟩ = ⟨([60, 47] ++ np ++ [62]).toArray⟩ := app2 (60 :: 47 :: np) [62]
          have hss : (⟨(60 :: 47 :: np).toArray⟩ : ByteArray).size = 2 + np.length := by rw [str_size]; simp; omega
          clear hk1' hk2'
          go_wp2_with fail
          refine hw5.out.mono ?_
          rintro e w5 ⟨rfl, hb5, hk5⟩
          have hb5' : IsBld w1.heap.size w1.heap.size (toksP ((l.take (k + 1)).map (·.1))) w5 := by rw [HTS.out, HY.out]; exact hb5
          have hs5 := Nat.le_trans hsz (Nat.le_trans hkA.size hk5.size)
          clear hstr1 hstr2 hss
          go_wp2_with fail
          go_roundw
          case rel => exact ⟨k + 1, by omega, by go_num, hb5', hkwA.trans hk5, hs5⟩
          case measure => simp [intOf]; omega
    · have hall : l.take k = l := List.take_of_length_le (by omega)
      rw [hall] at hbk
      go_wp2_with fail
      refine (Tryz.Builder_String_any w1.heap.size w1.heap.size _ _ hbk (by omega)).mono ?_
      rintro e w3 ⟨rfl, hb3⟩
      have hfin : Keeps [] w w3 := ⟨hb3.os.trans hK.os, hb3.tape.trans hK.tape, hb3.output.trans hK.output, Nat.le_trans hK.size hb3.size, fun i hi _ => (hb3.block i (Nat.lt_of_lt_of_le hi hk1.size)).trans (hK.block i hi List.not_mem_nil)⟩
      go_wp2_with fail
      go_ret2
      exact ⟨rfl, hfin⟩
end Go.Proofs.YtlcljanibjdejaaGreat
namespace Go.Proofs.YtlcljanibjdejaaGreat
open Go.RowKit Go.Maps
theorem must66 (o : Option Addr) (n c : Nat) (x : Int) (w : World) : Calls Tryz.prog 66 #[.slice o n c, .int .i64 x] w fun e w' => (x = 0 ∧ e = .returned (.slice o n c) ∨ x ≠ 0 ∧ e = .panicked (stopped x)) ∧ w' = w := by
  by_cases hx : x = 0
  · subst hx
    go_enter Tryz.func66, Tryz.ntmps66
    go_wp2_with fail
    go_ret
    exact ⟨.inl ⟨trivial, rfl⟩, rfl⟩
  · have hd : (x != 0) = true := by simpa using hx
    have hx2 := hide hx
    clear hx
    go_enter Tryz.func66, Tryz.ntmps66
    go_wp2_with fail
    refine (with_any x _).mono ?_
    rintro e w1 ⟨rfl, rfl⟩
    exact ⟨rfl, .inr ⟨hx2.out, rfl⟩, rfl⟩
theorem must67 (o : Option Addr) (n c : Nat) (x : Int) (w : World) : Calls Tryz.prog 67 #[.slice o n c, .int .i64 x] w fun e w' => (x = 0 ∧ e = .returned (.slice o n c) ∨ x ≠ 0 ∧ e = .panicked (stopped x)) ∧ w' = w := by
  by_cases hx : x = 0
  · subst hx
    go_enter Tryz.func67, Tryz.ntmps67
    go_wp2_with fail
    go_ret
    exact ⟨.inl ⟨trivial, rfl⟩, rfl⟩
  · have hd : (x != 0) = true := by simpa using hx
    have hx2 := hide hx
    clear hx
    go_enter Tryz.func67, Tryz.ntmps67
    go_wp2_with fail
    refine (with_any x _).mono ?_
    rintro e w1 ⟨rfl, rfl⟩
    exact ⟨rfl, .inr ⟨hx2.out, rfl⟩, rfl⟩
theorem must68 (s : ByteArray) (w : World) : Calls Tryz.prog 68 #[.string s, .int .i64 0] w fun e w' => e = .returned (.string s) ∧ w' = w := by
  go_enter Tryz.func68, Tryz.ntmps68
  go_wp2_with fail
  go_ret
  exact ⟨rfl, rfl⟩
end Go.Proofs.YtlcljanibjdejaaGreat
namespace Go.Proofs.YtlcljanibjdejaaGreat
open Go.RowKit Go.Maps
theorem nblk_new {w W : World} {o : Obj} {k : Nat} (hk : w.heap.size = k) (hW : w.alloc o = W) : W.heap[k]? = some o ∧ W.heap.size = k + 1 := by
  subst hk; subst hW; exact ⟨heap_alloc_new w o, by simp⟩
theorem ncell_all {w w' : World} (hk : Keeps [] w w') {g : Nat} {cs : Array Value} {ty : TypeId} (h : w.heap[g]? = some (.cells cs ty (0, 0))) (j : Nat) : w'.cell? ⟨g, j, none⟩ = cs[j]? := cell_blk ((hk.block _ (lt_of_block h) List.not_mem_nil).trans h) j
def cleanS (s : List UInt8) : Bool := decide (isE (buildL (readL s)) = 0) && (toksP (flatL (buildL (readL s))) == s)
theorem built_few (s : List UInt8) : (flatL (buildL (readL s))).length ≤ s.length := Nat.le_trans (wt_build _) (readL_light s)
theorem enters281 : Enters 281 := enters_of Tryz.func281 (by kernel_rfl) (by kernel_rfl)
set_option maxRecDepth 4000 in
set_option maxHeartbeats 4000000 in
theorem isClean1_any (s : List UInt8) (sb ob : Nat) (w : World) (hM : HasMax w) (hs : s.length ≤ 3000) (h1 : w.heap[sb]? = some (.cells #[.string ⟨s.toArray⟩] 9 (0, 0))) (h3 : w.heap[ob]? = some (.cells #[.bool false] 4 (0, 0))) :
    Calls Tryz.prog 281 #[.pointer (some ⟨sb, 0, none⟩), .pointer (some ⟨ob, 0, none⟩)] w fun e w' =>
      e = .returned (.tuple #[]) ∧ w'.heap[ob]? = some (.cells #[.bool (cleanS s)] 4 (0, 0)) ∧ Keeps [ob] w w' := by
  have nn : ∀ g, g ∉ ([] : List Nat) := fun _ => List.not_mem_nil
  have c1 : w.cell? ⟨sb, 0, none⟩ = some (.string ⟨s.toArray⟩) := cell_blk h1 0
  have hrd := hide (read_any ⟨s.toArray⟩ w (by rw [str_size]; unfold maxLen; omega) hM)
  rw [str_size, str_list] at hrd
  have H1 := hide h1
  have H3 := hide h3
  have HM := hide hM
  clear h1 h3 hM
  simp only [show ¬ 3000 < s.length from by omega, if_false] at hrd
  obtain ⟨f1, f2, f3, f4, _, _, _, _, _, _⟩ := html_facts [] s hs
  have fB := bulkNs_fits (buildL (readL s)) (by omega)
  have fV := bulk_val (buildL (readL s)) (by omega)
  have fS := bulkNs_size (buildL (readL s))
  have ftx := bulkL_text (readL s)
  have hbf := bulk_fits (l := readL s) (by omega)
  have hfb := flat_bulkL (buildL (readL s))
  have hnb := names_bulk (buildL (readL s))
  have hck := chk_flat (buildL (readL s)) ((chkTree_ok _).1 f3).2 (by have := built_few s; omega)
  have hbd := hide (fun (w1 : World) (hk1 : Keeps [] w w1) (v : Value) (hv : Toks w1 v (readL s)) => build_any w1 v (readL s) hv (fun t ht => (hbf t ht).1) (Nat.lt_of_lt_of_le HM.out.pos hk1.size) (fun t ht => (hbf t ht).2) (by omega))
  have hfl := hide (fun (w3 : World) (P : Nat → Prop) (v : Value) (hv : Ns w3 P v (buildL (readL s))) => treeFlat_any w3 P v _ hv (by omega) fB.1 fB.2)
  have hpr := hide (fun (w4 : World) (v : Value) (hv : Toks w4 v (flatL (buildL (readL s)))) => print_all w4 v _ hv (by omega) hck)
  have hci := hide (fun (w5 : World) (hk5 : Keeps [] w w5) (P : Nat → Prop) (v : Value) (hv : Ns w5 P v (buildL (readL s))) => cleanIs_any w5 P v _ hv (HM.out.keeps hk5 (nn _)) (by omega) fB.1 fV.1)
  rw [f1] at hbd
  rw [f3] at hfl hci
  simp only [if_true, decide_true, Bool.true_and] at hbd hfl hci
  unfold cleanS
  clear f1 f2 f3 f4 fB fV fS ftx hbf hfb hnb hck hs
  generalize decide (isE (buildL (readL s)) = 0) = B at *
  obtain ⟨FL, hFL⟩ : ∃ FL, flatL (buildL (readL s)) = FL := ⟨_, rfl⟩
  obtain ⟨BL, hBL⟩ : ∃ BL, buildL (readL s) = BL := ⟨_, rfl⟩
  rw [hFL] at hpr hfl ⊢
  rw [hBL] at hbd hci hfl
  clear hFL hBL
  generalize readL s = RL at *
  obtain ⟨PL, hPL⟩ : ∃ PL, toksP FL = PL := ⟨_, rfl⟩
  rw [hPL] at hpr ⊢
  clear hPL
  have hse : ((⟨PL.toArray⟩ : ByteArray).toList == (⟨s.toArray⟩ : ByteArray).toList) = (PL == s) := by rw [strEq, Bool.eq_iff_iff]; simp
  have m66 := hide (fun o n c w => (must66 o n c 0 w).mono (R' := fun e w' => e = .returned (.slice o n c) ∧ w' = w) (fun e w' h => ⟨h.1.elim (fun h => h.2) (fun h => absurd rfl h.1), h.2⟩))
  have m67 := hide (fun o n c w => (must67 o n c 0 w).mono (R' := fun e w' => e = .returned (.slice o n c) ∧ w' = w) (fun e w' h => ⟨h.1.elim (fun h => h.2) (fun h => absurd rfl h.1), h.2⟩))
  go_enter Tryz.func281, Tryz.ntmps281
  go_wp2_with fail
  refine hrd.out.mono ?_
  rintro e w1 ⟨hk1, v1, rfl, ht1⟩
  obtain ⟨o1, n1, c1', hv1⟩ : ∃ o n c, v1 = .slice o n c := by
    obtain ⟨l, _, hl, _⟩ := ht1.toks
    obtain ⟨o, c, h, _⟩ := hl.form
    exact ⟨o, _, c, h⟩
  subst hv1
  have hb1 := hide (hbd.out w1 hk1 _ ht1.toks)
  have HK1 := hide hk1
  clear hk1 ht1
  go_wp2_with fail
  refine (m67.out _ _ _ _).mono ?_
  rintro e w2 ⟨rfl, h9⟩
  subst h9
  go_wp2_with fail
  refine hb1.out.mono ?_
  rintro e w2 ⟨v2, rfl, hN2, hk2⟩
  obtain ⟨o2, c2, hv2⟩ := hN2.form
  subst hv2
  have HN2 := hide hN2
  have HK2 := hide (HK1.out.trans hk2)
  have hf2 := hide (hfl.out w2 _ _ hN2)
  clear c1 hN2 hk2
  go_wp2_with fail
  refine (m66.out _ _ _ _).mono ?_
  rintro e w3 ⟨rfl, h9⟩
  subst h9
  go_wp2_with fail
  refine hf2.out.mono ?_
  rintro e w4 ⟨v4, rfl, ⟨n4, c4, a4, rfl, h8⟩, ht4, hk4⟩
  subst h8
  have hp4 := hide (hpr.out w4 _ ht4)
  have HK4 := hide (HK2.out.trans hk4)
  have HN4 := hide (HN2.out.keeps0 hk4)
  clear hk4 ht4
  go_wp2_with fail
  refine (m67.out _ _ _ _).mono ?_
  rintro e w5 ⟨rfl, h9⟩
  subst h9
  go_wp2_with fail
  refine hp4.out.mono ?_
  rintro e w5 ⟨rfl, hk5⟩
  have HK5 := hide (HK4.out.trans hk5)
  have HN5 := hide (HN4.out.keeps0 hk5)
  have hi5 := hide (hci.out w5 HK5.out _ _ HN5.out)
  clear hk5
  go_wp2_with fail
  refine (must68 _ _).mono ?_
  rintro e w6 ⟨rfl, h9⟩
  subst h9
  go_wp2_with fail
  refine hi5.out.mono ?_
  rintro e w7 ⟨rfl, hk7⟩
  have HK7 := hide (HK5.out.trans hk7)
  clear hk7
  have e7 := (HK7.out.block _ (lt_of_block H3.out) (nn _)).trans H3.out
  have x7 : w7.cell? ⟨ob, 0, none⟩ = some (.bool false) := cell_blk e7 0
  have y7 : w7.frozen? ⟨ob, 0, none⟩ = false := free_blk e7 0
  have z7 : w7.cell? ⟨sb, 0, none⟩ = some (.string ⟨s.toArray⟩) := cell_blk ((HK7.out.block _ (lt_of_block H1.out) (nn _)).trans H1.out) 0
  go_wp2_with fail
  refine (mustBool_ok _ _).mono ?_
  rintro e w8 ⟨rfl, h9⟩
  subst h9
  have E7 := hide e7
  clear e7
  cases B
  · go_wp2_with fail
    go_end0
    refine ⟨rfl, ?_, (HK7.out.to (by simp)).setCell (.inl (by simp)) _⟩
    simp [World.setCell, Array.getElem?_modify, E7.out]
  · go_wp2_with fail
    go_end0
    refine ⟨rfl, ?_, (HK7.out.to (by simp)).setCell (.inl (by simp)) _⟩
    simp [World.setCell, Array.getElem?_modify, E7.out]
set_option maxHeartbeats 2000000 in
theorem isClean_any (s : List UInt8) (w : World) (hM : HasMax w) (hs : s.length ≤ 3000) :
    Calls Tryz.prog 212 #[.string ⟨s.toArray⟩] w fun e w' => e = .returned (.bool (cleanS s)) ∧ Keeps [] w w' := by
  obtain ⟨W, hW⟩ : ∃ W, (w.alloc (.cells #[.string ⟨s.toArray⟩] 9)).alloc (.cells #[.bool false] 4) = W := ⟨_, rfl⟩
  have hkW : Keeps [] w W := by rw [← hW]; exact ((Keeps.refl [] w).alloc _).alloc _
  have s1 : ∀ o, (w.alloc o).heap.size = w.heap.size + 1 := fun o => by simp
  have hb1 : W.heap[w.heap.size]? = some (.cells #[.string ⟨s.toArray⟩] 9 (0, 0)) := by
    rw [← hW, Below.heap_alloc _ _ _ (by rw [s1]; omega)]
    exact heap_alloc_new w _
  have hb2 : W.heap[w.heap.size + 1]? = some (.cells #[.bool false] 4 (0, 0)) := by
    rw [← hW, ← s1]
    exact heap_alloc_new _ _
  have hsz : W.heap.size = w.heap.size + 1 + 1 := by rw [← hW]; simp
  have nn : ∀ g, g ∉ ([] : List Nat) := fun _ => List.not_mem_nil
  have hc := hide (caught_any 281 #[.pointer (some ⟨w.heap.size, 0, none⟩), .pointer (some ⟨w.heap.size + 1, 0, none⟩)]
    (fun w2 => w2.heap[w.heap.size + 1]? = some (.cells #[.bool (cleanS s)] 4 (0, 0)))
    (fun _ _ => False) [w.heap.size + 1] W enters281
    (fun i hi => by simp at hi; omega)
    (fun w2 w3 _ h hk => (hk.block _ (lt_of_block h) (by simp; omega)).trans h)
    (fun x w2 w3 _ h hk => h)
    (fun w1 hk1 _ => (isClean1_any s w.heap.size (w.heap.size + 1) w1 (hM.keeps (hkW.trans hk1) (nn _)) hs ((hk1.block _ (lt_of_block hb1) (nn _)).trans hb1) ((hk1.block _ (lt_of_block hb2) (nn _)).trans hb2)).mono
      (fun e w2 h => ⟨.inl ⟨h.1, h.2.1⟩, h.2.2⟩)))
  have hmf : ∀ (fn : Fn) (first cap : Array Value) (w : World), (Instr.makeFunc fn first cap).run Tryz.prog w = .ok (.func fn first cap) w := fun _ _ _ _ => rfl
  clear hb1 hb2 s1 hsz hM hs
  have HW := hide hW
  clear hW
  go_enter Tryz.func212, Tryz.ntmps212
  go_upto_region 2 with fail
  rw [HW.out]
  go_wp2_with fail
  refine hc.out.mono ?_
  rintro e w1 ⟨⟨rfl, hb⟩ | ⟨x, _, hno⟩, hk1⟩
  · have c0 : w1.cell? ⟨w.heap.size + 1, 0, none⟩ = some (.bool (cleanS s)) := cell_blk hb 0
    cases hcs : cleanS s
    · rw [hcs] at c0
      have HCS := hide hcs
      clear hcs hb
      go_wp2_with fail
      go_ret
      exact ⟨by rw [HCS.out]; rfl, keeps_on hkW hk1 (fun g hg hlt => by simp at hg; omega)⟩
    · rw [hcs] at c0
      have HCS := hide hcs
      clear hcs hb
      go_wp2_with fail
      go_ret
      exact ⟨by rw [HCS.out]; rfl, keeps_on hkW hk1 (fun g hg hlt => by simp at hg; omega)⟩
  · exact hno.elim
theorem isSafe_any (s : List UInt8) (w : World) (hM : HasMax w) (hs : s.length ≤ 3000) :
    Calls Tryz.prog 211 #[.string ⟨s.toArray⟩] w fun e w' => e = .returned (.bool (safeL s)) ∧ Keeps [] w w' := by
  have hsf := hide (safe_any ⟨s.toArray⟩ w (by rw [str_size]; exact hs) hM)
  rw [str_list] at hsf
  generalize safeL s = B at *
  clear hs hM
  go_enter Tryz.func211, Tryz.ntmps211
  go_wp2_with fail
  refine hsf.out.mono ?_
  rintro e w1 ⟨rfl, hk1⟩
  cases B
  · go_wp2_with fail
    go_ret
    exact ⟨rfl, hk1⟩
  · go_wp2_with fail
    go_ret
    exact ⟨rfl, hk1⟩
end Go.Proofs.YtlcljanibjdejaaGreat
namespace Go.Proofs.YtlcljanibjdejaaGreat
structure En where
  id : List UInt8
  title : List UInt8
  link : List UInt8
  tm : Int
  html : List UInt8
  deriving DecidableEq
/-- Byte by byte, a shorter one that is a beginning ahead. -/
def lessL : List UInt8 → List UInt8 → Bool
  | [], [] => false
  | [], _ :: _ => true
  | _ :: _, [] => false
  | a :: r, b :: q => decide (a.toNat < b.toNat) || (decide (a.toNat = b.toNat) && lessL r q)
theorem lessL_irrefl : ∀ l, lessL l l = false
  | [] => rfl
  | a :: r => by simp [lessL, lessL_irrefl r]
theorem lessL_trans : ∀ a b c, lessL a b = true → lessL b c = true → lessL a c = true
  | [], [], _, h, _ => by simp [lessL] at h
  | [], _ :: _, [], _, k => by simp [lessL] at k
  | [], _ :: _, _ :: _, _, _ => rfl
  | _ :: _, [], _, h, _ => by simp [lessL] at h
  | _ :: _, _ :: _, [], _, k => by simp [lessL] at k
  | a :: r, b :: q, c :: s, h, k => by
    simp only [lessL, Bool.or_eq_true, Bool.and_eq_true, decide_eq_true_eq] at h k ⊢
    rcases h with h | ⟨h, h2⟩ <;> rcases k with k | ⟨k, k2⟩
    · left; omega
    · left; omega
    · left; omega
    · right; exact ⟨by omega, lessL_trans r q s h2 k2⟩
theorem lessL_total : ∀ a b, a = b ∨ lessL a b = true ∨ lessL b a = true
  | [], [] => .inl rfl
  | [], _ :: _ => .inr (.inl rfl)
  | _ :: _, [] => .inr (.inr rfl)
  | a :: r, b :: q => by
    simp only [lessL, Bool.or_eq_true, Bool.and_eq_true, decide_eq_true_eq]
    rcases Nat.lt_trichotomy a.toNat b.toNat with h | h | h
    · exact .inr (.inl (.inl h))
    · have e : a = b := UInt8.toNat_inj.1 h
      subst e
      rcases lessL_total r q with h2 | h2 | h2
      · exact .inl (by rw [h2])
      · exact .inr (.inl (.inr ⟨rfl, h2⟩))
      · exact .inr (.inr (.inr ⟨rfl, h2⟩))
    · exact .inr (.inr (.inl h))
theorem lessL_asymm {a b : List UInt8} (h : lessL a b = true) : lessL b a = false := by
  cases h2 : lessL b a with
  | false => rfl
  | true => have := lessL_trans _ _ _ h h2; rw [lessL_irrefl] at this; simp at this
/-- One stands ahead of another: it is newer, or of one time and its id is less. -/
def aheadE (x y : En) : Bool := decide (y.tm < x.tm) || (decide (y.tm = x.tm) && lessL x.id y.id)
theorem aheadE_irrefl (x : En) : aheadE x x = false := by simp [aheadE, lessL_irrefl]
theorem aheadE_trans {x y z : En} (h : aheadE x y = true) (k : aheadE y z = true) : aheadE x z = true := by
  simp only [aheadE, Bool.or_eq_true, Bool.and_eq_true, decide_eq_true_eq] at h k ⊢
  rcases h with h | ⟨h, h2⟩ <;> rcases k with k | ⟨k, k2⟩
  · left; omega
  · left; omega
  · left; omega
  · right; exact ⟨by omega, lessL_trans _ _ _ h2 k2⟩
theorem aheadE_total (x y : En) : (x.tm = y.tm ∧ x.id = y.id) ∨ aheadE x y = true ∨ aheadE y x = true := by
  simp only [aheadE, Bool.or_eq_true, Bool.and_eq_true, decide_eq_true_eq]
  rcases lessL_total x.id y.id with h | h | h <;> rcases Int.lt_trichotomy x.tm y.tm with k | k | k <;> simp [*] <;> omega
theorem aheadE_asymm {x y : En} (h : aheadE x y = true) : aheadE y x = false := by
  cases h2 : aheadE y x with
  | false => rfl
  | true => have := aheadE_trans h h2; rw [aheadE_irrefl] at this; simp at this
/-- What order answers. -/
def cmpI (a b : Int) : Int := if a < b then -1 else if b < a then 1 else 0
def cmpL (a b : List UInt8) : Int := if lessL a b = true then -1 else if lessL b a = true then 1 else 0
def ordE (x y : En) : Int := if cmpI y.tm x.tm ≠ 0 then cmpI y.tm x.tm else cmpL x.id y.id
theorem ordE_neg (x y : En) : ordE x y < 0 ↔ aheadE x y = true := by
  unfold ordE cmpI cmpL aheadE
  rcases Int.lt_trichotomy y.tm x.tm with k | k | k
  · simp [k]
  · simp [k]
    cases lessL x.id y.id <;> simp
    split <;> omega
  · have h1 : ¬ y.tm < x.tm := by omega
    have h2 : ¬ y.tm = x.tm := by omega
    simp [h1, h2, k]
theorem ordE_pos (x y : En) : 0 < ordE x y ↔ aheadE y x = true := by
  unfold ordE cmpI cmpL aheadE
  rcases Int.lt_trichotomy y.tm x.tm with k | k | k
  · have h1 : ¬ x.tm < y.tm := by omega
    have h2 : ¬ x.tm = y.tm := by omega
    simp [h1, h2, k]
  · simp [k]
    cases h : lessL x.id y.id
    · simp; split <;> simp_all
    · have := lessL_asymm h; simp [this]
  · have h1 : ¬ y.tm < x.tm := by omega
    simp [h1, k]
/-- Shelves: sorted, each id once. -/
def SortedE (l : List En) : Prop := l.Pairwise fun x y => aheadE x y = true
def OnceE (l : List En) : Prop := l.Pairwise fun x y => x.id ≠ y.id
def insE (l : List En) (x : En) : List En := l.takeWhile (aheadE · x) ++ x :: l.dropWhile (aheadE · x)
def putE (l : List En) (x : En) : List En :=
  match l.find? (fun y => y.id == x.id) with
  | none => insE l x
  | some y => if x.tm < y.tm then l else insE (l.filter fun z => !(z.id == x.id)) x
def putsE (l : List En) (m : List En) : List En := m.foldl putE l
theorem mem_insE {l : List En} {x y : En} : y ∈ insE l x ↔ y = x ∨ y ∈ l := by
  unfold insE
  conv => rhs; rw [← List.takeWhile_append_dropWhile (p := (aheadE · x)) (l := l)]
  simp only [List.mem_append, List.mem_cons]
  constructor
  · rintro (h | h | h)
    · exact .inr (.inl h)
    · exact .inl h
    · exact .inr (.inr h)
  · rintro (h | h | h)
    · exact .inr (.inl h)
    · exact .inl h
    · exact .inr (.inr h)
theorem takeWhile_mem {f : En → Bool} : ∀ {l : List En} {y : En}, y ∈ l.takeWhile f → f y = true
  | [], _, h => by simp at h
  | a :: l, y, h => by
    rw [List.takeWhile_cons] at h
    split at h
    · rcases List.mem_cons.1 h with rfl | h
      · assumption
      · exact takeWhile_mem h
    · simp at h
theorem dropWhile_sorted (x : En) : ∀ (l : List En), SortedE l → ∀ y ∈ l.dropWhile (aheadE · x), aheadE y x = false
  | [], _, y, h => by simp at h
  | a :: l, hs, y, h => by
    have hs' := List.pairwise_cons.1 hs
    rw [List.dropWhile_cons] at h
    split at h
    · exact dropWhile_sorted x l hs'.2 y h
    · rename_i ha
      have ha : aheadE a x = false := by simpa using ha
      rcases List.mem_cons.1 h with rfl | h
      · exact ha
      · cases h9 : aheadE y x with
        | false => rfl
        | true => rw [aheadE_trans (hs'.1 y h) h9] at ha; simp at ha
theorem sorted_insE {l : List En} {x : En} (h : SortedE l) (hx : ∀ y ∈ l, y.id ≠ x.id) : SortedE (insE l x) := by
  have e := List.takeWhile_append_dropWhile (p := (aheadE · x)) (l := l)
  have h2 : SortedE (l.takeWhile (aheadE · x) ++ l.dropWhile (aheadE · x)) := by rw [e]; exact h
  have h3 := List.pairwise_append.1 h2
  unfold insE SortedE
  rw [List.pairwise_append]
  have hd : ∀ y ∈ l.dropWhile (aheadE · x), aheadE x y = true := by
    intro y hy
    have h4 := dropWhile_sorted x l h y hy
    have h5 : y ∈ l := (List.dropWhile_sublist _).subset hy
    rcases aheadE_total x y with h6 | h6 | h6
    · exact absurd h6.2.symm (hx y h5)
    · exact h6
    · rw [h4] at h6; simp at h6
  refine ⟨h3.1, List.Pairwise.cons hd h3.2.1, ?_⟩
  intro a ha b hb
  rcases List.mem_cons.1 hb with rfl | hb
  · exact takeWhile_mem (f := (aheadE · b)) ha
  · exact h3.2.2 a ha b hb
theorem perm_insE (l : List En) (x : En) : (insE l x).Perm (x :: l) := by
  unfold insE
  refine (List.perm_middle).trans ?_
  rw [List.takeWhile_append_dropWhile]
theorem once_insE {l : List En} {x : En} (h : OnceE l) (hx : ∀ y ∈ l, y.id ≠ x.id) : OnceE (insE l x) := by
  refine ((perm_insE l x).pairwise_iff (fun h => Ne.symm h)).2 ?_
  exact List.Pairwise.cons (fun y hy => (hx y hy).symm) h
theorem once_eq {l : List En} (h : OnceE l) {x y : En} (hx : x ∈ l) (hy : y ∈ l) (e : x.id = y.id) : x = y := by
  induction l with
  | nil => simp at hx
  | cons a l ih =>
    have h2 := List.pairwise_cons.1 h
    rcases List.mem_cons.1 hx with hx1 | hx1 <;> rcases List.mem_cons.1 hy with hy1 | hy1
    · rw [hx1, hy1]
    · exact absurd (hx1 ▸ e) (h2.1 y hy1)
    · exact absurd (hy1 ▸ e.symm) (h2.1 x hx1)
    · exact ih h2.2 hx1 hy1
/-- One way or another: x is there, or one that is newer is. -/
theorem putE_ways (l : List En) (x : En) : (∃ y ∈ l, y.id = x.id ∧ x.tm < y.tm ∧ putE l x = l) ∨ (putE l x = insE (l.filter fun z => !(z.id == x.id)) x ∧ (OnceE l → ∀ y ∈ l, y.id = x.id → y.tm ≤ x.tm)) := by
  unfold putE
  cases h : l.find? (fun y => y.id == x.id) with
  | none =>
    right
    have hn : ∀ y ∈ l, y.id ≠ x.id := fun y hy => by
      have := List.find?_eq_none.1 h y hy
      simpa using this
    refine ⟨?_, fun _ y hy he => absurd he (hn y hy)⟩
    simp only
    rw [List.filter_eq_self.2]
    intro y hy
    simpa using hn y hy
  | some y =>
    have hy := List.mem_of_find?_eq_some h
    have he := List.find?_some h
    simp only [beq_iff_eq] at he
    simp only
    split
    · rename_i hlt
      exact .inl ⟨y, hy, he, hlt, rfl⟩
    · rename_i hlt
      exact .inr ⟨rfl, fun ho z hz hze => by rw [once_eq ho hz hy (hze.trans he.symm)]; omega⟩
theorem sorted_filter {l : List En} (h : SortedE l) (f : En → Bool) : SortedE (l.filter f) := List.Pairwise.filter _ h
theorem once_filter {l : List En} (h : OnceE l) (f : En → Bool) : OnceE (l.filter f) := List.Pairwise.filter _ h
theorem putE_right {l : List En} {x : En} (h : SortedE l) (ho : OnceE l) : SortedE (putE l x) ∧ OnceE (putE l x) := by
  rcases putE_ways l x with ⟨_, _, _, _, e⟩ | ⟨e, _⟩
  · rw [e]; exact ⟨h, ho⟩
  · rw [e]
    have hn : ∀ y ∈ l.filter (fun z => !(z.id == x.id)), y.id ≠ x.id := fun y hy => by
      have := (List.mem_filter.1 hy).2
      simpa using this
    exact ⟨sorted_insE (sorted_filter h _) hn, once_insE (once_filter ho _) hn⟩
theorem putE_mem {l : List En} {x y : En} (h : y ∈ putE l x) : y = x ∨ y ∈ l := by
  rcases putE_ways l x with ⟨_, _, _, _, e⟩ | ⟨e, _⟩
  · rw [e] at h; exact .inr h
  · rw [e, mem_insE] at h
    rcases h with h | h
    · exact .inl h
    · exact .inr (List.mem_filter.1 h).1
/-- Whatever is there, or came: one of its id that is not elder is there. -/
theorem putE_has {l : List En} (ho : OnceE l) (x : En) {y : En} (hy : y ∈ l ∨ y = x) : ∃ z ∈ putE l x, z.id = y.id ∧ y.tm ≤ z.tm := by
  rcases putE_ways l x with ⟨z, hz, hi, hl, e⟩ | ⟨e, h2⟩
  · rw [e]
    rcases hy with hy | rfl
    · exact ⟨y, hy, rfl, Int.le_refl _⟩
    · exact ⟨z, hz, hi, by omega⟩
  · rw [e]
    by_cases hyx : y.id = x.id
    · refine ⟨x, mem_insE.2 (.inl rfl), hyx.symm, ?_⟩
      rcases hy with hy | rfl
      · exact h2 ho y hy hyx
      · exact Int.le_refl _
    · rcases hy with hy | rfl
      · exact ⟨y, mem_insE.2 (.inr (List.mem_filter.2 ⟨hy, by simpa using hyx⟩)), rfl, Int.le_refl _⟩
      · exact absurd rfl hyx
theorem putsE_right (m : List En) : ∀ (l : List En), SortedE l → OnceE l → SortedE (putsE l m) ∧ OnceE (putsE l m) := by
  induction m with
  | nil => intro l h ho; exact ⟨h, ho⟩
  | cons x m ih => intro l h ho; have := putE_right (x := x) h ho; exact ih _ this.1 this.2
theorem putsE_mem (m : List En) : ∀ (l : List En) (y : En), y ∈ putsE l m → y ∈ l ∨ y ∈ m := by
  induction m with
  | nil => intro l y h; exact .inl h
  | cons x m ih =>
    intro l y h
    rcases ih _ y h with h | h
    · rcases putE_mem h with rfl | h
      · exact .inr (by simp)
      · exact .inl h
    · exact .inr (by simp [h])
theorem putsE_has (m : List En) : ∀ (l : List En), SortedE l → OnceE l → ∀ y, y ∈ l ∨ y ∈ m → ∃ z ∈ putsE l m, z.id = y.id ∧ y.tm ≤ z.tm := by
  induction m with
  | nil => intro l _ _ y hy; exact ⟨y, by simpa [putsE] using hy, rfl, Int.le_refl _⟩
  | cons x m ih =>
    intro l h ho y hy
    have hr := putE_right (x := x) h ho
    by_cases hm : y ∈ m
    · exact ih _ hr.1 hr.2 y (.inr hm)
    · have : y ∈ l ∨ y = x := by
        rcases hy with hy | hy
        · exact .inl hy
        · rcases List.mem_cons.1 hy with hy | hy
          · exact .inr hy
          · exact absurd hy hm
      obtain ⟨z, hz, h1, h2⟩ := putE_has ho x this
      obtain ⟨z2, hz2, h3, h4⟩ := ih _ hr.1 hr.2 z (.inl hz)
      exact ⟨z2, hz2, h3.trans h1, by omega⟩
/-- The shelf behind Put. -/
def shelved (l m : List En) : List En := (putsE l m).take 20
theorem shelved_right {l m : List En} (h : SortedE l) (ho : OnceE l) : SortedE (shelved l m) ∧ OnceE (shelved l m) ∧ (shelved l m).length ≤ 20 := by
  have := putsE_right m l h ho
  exact ⟨this.1.sublist (List.take_sublist _ _), this.2.sublist (List.take_sublist _ _), by simp [shelved]; omega⟩
theorem shelved_mem {l m : List En} {y : En} (h : y ∈ shelved l m) : y ∈ l ∨ y ∈ m := putsE_mem m l y ((List.take_sublist _ _).subset h)
theorem take_drop_ahead {l : List En} (h : SortedE l) (n : Nat) : ∀ x ∈ l.take n, ∀ y ∈ l.drop n, aheadE x y = true := by
  have : SortedE (l.take n ++ l.drop n) := by rw [List.take_append_drop]; exact h
  exact (List.pairwise_append.1 this).2.2
/-- What went stands behind all that is there, and nothing went where there is room. -/
theorem shelved_gone {l m : List En} (h : SortedE l) (ho : OnceE l) {y : En} (hy : y ∈ l ∨ y ∈ m) (hn : ∀ z ∈ shelved l m, z.id ≠ y.id) : (shelved l m).length = 20 ∧ ∀ z ∈ shelved l m, aheadE z y = true := by
  obtain ⟨z, hz, h1, h2⟩ := putsE_has m l h ho y hy
  have hs := putsE_right m l h ho
  have hzd : z ∈ (putsE l m).drop 20 := by
    rw [← List.take_append_drop 20 (putsE l m)] at hz
    rcases List.mem_append.1 hz with h9 | h9
    · exact absurd h1 (hn z h9)
    · exact h9
  refine ⟨?_, fun q hq => ?_⟩
  · have : 0 < ((putsE l m).drop 20).length := List.length_pos_of_mem hzd
    simp [shelved] at this ⊢
    omega
  · have h3 := take_drop_ahead hs.1 20 q hq z hzd
    simp only [aheadE, Bool.or_eq_true, Bool.and_eq_true, decide_eq_true_eq] at h3 ⊢
    rcases h3 with h3 | ⟨h3, h4⟩
    · left; omega
    · rcases Int.lt_or_eq_of_le h2 with h5 | h5
      · left; omega
      · right; exact ⟨by omega, by rw [← h1]; exact h4⟩
theorem shelved_new {l m : List En} (h : SortedE l) (ho : OnceE l) {y z : En} (hy : y ∈ l ∨ y ∈ m) (hz : z ∈ shelved l m) (he : z.id = y.id) : y.tm ≤ z.tm := by
  obtain ⟨q, hq, h1, h2⟩ := putsE_has m l h ho y hy
  have hs := putsE_right m l h ho
  have := once_eq hs.2 ((List.take_sublist _ _).subset hz) hq (he.trans h1.symm)
  rw [this]; exact h2
/-- Behind those that stay, some that are to go. -/
theorem insE_behind {a j : List En} {x : En} (h : ∀ z ∈ a, aheadE z x = true) : insE (a ++ j) x = a ++ insE j x := by
  induction a with
  | nil => rfl
  | cons z a ih =>
    have h1 := h z (by simp)
    have h2 := ih (fun q hq => h q (by simp [hq]))
    unfold insE at h2 ⊢
    simp [h1] at h2 ⊢
    exact h2
theorem insE_back {l : List En} {x : En} (h : SortedE l) (ho : OnceE l) (hx : x ∈ l) : insE (l.filter fun z => !(z.id == x.id)) x = l := by
  induction l with
  | nil => simp at hx
  | cons a l ih =>
    have h2 := List.pairwise_cons.1 h
    have o2 := List.pairwise_cons.1 ho
    rcases List.mem_cons.1 hx with hx1 | hx1
    · subst hx1
      have e : (x :: l).filter (fun z => !(z.id == x.id)) = l := by
        rw [List.filter_cons]
        simp
        intro y hy
        exact fun h9 => o2.1 y hy h9.symm
      rw [e]
      cases l with
      | nil => rfl
      | cons b l =>
        have := aheadE_asymm (h2.1 b (by simp))
        simp [insE, this]
    · have h3 := ih h2.2 o2.2 hx1
      have hne : a.id ≠ x.id := o2.1 x hx1
      have ha := h2.1 x hx1
      rw [List.filter_cons]
      simp only [show (!(a.id == x.id)) = true from by simpa using hne, if_true]
      unfold insE at h3 ⊢
      simp [ha]
      exact h3
theorem putE_same {l : List En} {x : En} (h : SortedE l) (ho : OnceE l) (hx : x ∈ l) : putE l x = l := by
  rcases putE_ways l x with ⟨_, _, _, _, e⟩ | ⟨e, _⟩
  · exact e
  · rw [e]; exact insE_back h ho hx
/-- What was put last stands as it is, or one that is newer. -/
theorem putE_in (l : List En) (x : En) (ho : OnceE l) {z : En} (hz : z ∈ putE l x) (he : z.id = x.id) : z = x ∨ x.tm < z.tm := by
  rcases putE_ways l x with ⟨y, hy, hi, hl, e⟩ | ⟨e, _⟩
  · rw [e] at hz
    right
    rw [once_eq ho hz hy (he.trans hi.symm)]; exact hl
  · rw [e, mem_insE] at hz
    rcases hz with hz | hz
    · exact .inl hz
    · have := (List.mem_filter.1 hz).2
      simp [he] at this
theorem putE_other (l : List En) (x : En) {z : En} (hz : z ∈ putE l x) (he : z.id ≠ x.id) : z ∈ l := by
  rcases putE_mem hz with rfl | h
  · exact absurd rfl he
  · exact h
theorem putsE_last (m : List En) : ∀ (l : List En), SortedE l → OnceE l → OnceE m → ∀ x ∈ m, ∀ z ∈ putsE l m, z.id = x.id → z = x ∨ x.tm < z.tm := by
  induction m with
  | nil => intro l _ _ _ x hx; simp at hx
  | cons y m ih =>
    intro l h ho hm x hx z hz he
    have hr := putE_right (x := y) h ho
    have hm2 := List.pairwise_cons.1 hm
    rcases List.mem_cons.1 hx with hx1 | hx1
    · subst hx1
      have hlast : z ∈ putE l x := by
        have : ∀ (m' : List En) (l' : List En), (∀ q ∈ m', q.id ≠ z.id) → z ∈ putsE l' m' → z ∈ l' := by
          intro m'
          induction m' with
          | nil => intro l' _ h9; exact h9
          | cons q m' ih2 =>
            intro l' hq h9
            have := ih2 (putE l' q) (fun p hp => hq p (by simp [hp])) h9
            exact putE_other l' q this (fun h8 => hq q (by simp) h8.symm)
        exact this m _ (fun q hq h9 => hm2.1 q hq (by rw [h9, he])) hz
      exact putE_in l x ho hlast he
    · exact ih _ hr.1 hr.2 hm2.2 x hx1 z hz he
/-- Put again onto what came of it: what stays stays, and what goes stands behind it. -/
theorem putsE_again (a : List En) : ∀ (m j : List En), SortedE (a ++ j) → OnceE (a ++ j) → OnceE m →
    (∀ x ∈ m, (∃ z ∈ a, z.id = x.id ∧ (z = x ∨ x.tm < z.tm)) ∨ (∀ z ∈ a, z.id ≠ x.id ∧ aheadE z x = true)) → ∃ j', putsE (a ++ j) m = a ++ j' := by
  intro m
  induction m with
  | nil => intro j _ _ _ _; exact ⟨j, rfl⟩
  | cons x m ih =>
    intro j hs hj hm hx
    have hm2 := List.pairwise_cons.1 hm
    have hr := putE_right (x := x) hs hj
    have key : ∃ j2, putE (a ++ j) x = a ++ j2 := by
      rcases hx x (by simp) with ⟨z, hz, he, h9⟩ | h9
      · rcases h9 with rfl | h9
        · exact ⟨j, putE_same hs hj (by simp [hz])⟩
        · rcases putE_ways (a ++ j) x with ⟨_, _, _, _, e⟩ | ⟨e, h8⟩
          · exact ⟨j, e⟩
          · have := h8 hj z (by simp [hz]) he
            omega
      · rcases putE_ways (a ++ j) x with ⟨_, _, _, _, e⟩ | ⟨e, h8⟩
        · exact ⟨j, e⟩
        · refine ⟨insE (j.filter fun z => !(z.id == x.id)) x, ?_⟩
          rw [e, List.filter_append, List.filter_eq_self.2 (fun z hz => by simpa using (h9 z hz).1)]
          exact insE_behind (fun z hz => (h9 z hz).2)
    obtain ⟨j2, e⟩ := key
    have e2 : putsE (a ++ j) (x :: m) = putsE (putE (a ++ j) x) m := rfl
    rw [e2, e]
    rw [e] at hr
    exact ih j2 hr.1 hr.2 hm2.2 (fun y hy => hx y (by simp [hy]))
/-- ONE LIST THAT COMES A SECOND TIME CHANGES NOTHING. -/
theorem shelved_again {l m : List En} (h : SortedE l) (ho : OnceE l) (hm : OnceE m) : shelved (shelved l m) m = shelved l m := by
  have hs := shelved_right (m := m) h ho
  have hp := putsE_right m l h ho
  obtain ⟨j, hj⟩ := putsE_again (shelved l m) m [] (by simpa using hs.1) (by simpa using hs.2.1) hm (fun x hx => by
    by_cases h9 : ∃ z ∈ shelved l m, z.id = x.id
    · obtain ⟨z, hz, he⟩ := h9
      exact .inl ⟨z, hz, he, putsE_last m l h ho hm x hx z ((List.take_sublist _ _).subset hz) he⟩
    · right
      have hn : ∀ z ∈ shelved l m, z.id ≠ x.id := fun z hz h8 => h9 ⟨z, hz, h8⟩
      exact fun z hz => ⟨hn z hz, (shelved_gone h ho (.inr hx) hn).2 z hz⟩)
  rw [List.append_nil] at hj
  have e : shelved (shelved l m) m = (putsE (shelved l m) m).take 20 := rfl
  rw [e, hj]
  by_cases hlen : (shelved l m).length = 20
  · rw [List.take_append_of_le_length (by omega), List.take_of_length_le (by omega)]
  · have : j = [] := by
      cases j with
      | nil => rfl
      | cons q j =>
        exfalso
        have hq : q ∈ putsE (shelved l m) m := by rw [hj]; simp
        have hr := putsE_right m _ hs.1 hs.2.1
        rw [hj] at hr
        have hne : ∀ z ∈ shelved l m, z.id ≠ q.id := fun z hz => (List.pairwise_append.1 hr.2).2.2 z hz q (by simp)
        rcases putsE_mem m _ q hq with h9 | h9
        · exact hne q h9 rfl
        · exact hlen (shelved_gone h ho (.inr h9) hne).1
    rw [this, List.append_nil, List.take_of_length_le hs.2.2]
def SortedI (l : List (List UInt8)) : Prop := l.Pairwise fun x y => lessL x y = true
def insI (l : List (List UInt8)) (x : List UInt8) : List (List UInt8) := l.takeWhile (lessL · x) ++ x :: l.dropWhile (lessL · x)
def markI (l : List (List UInt8)) (x : List UInt8) (read : Bool) : List (List UInt8) :=
  if read = true then (if x ∈ l then l else insI l x) else l.filter (fun y => !(y == x))
theorem takeWhile_memI {f : List UInt8 → Bool} : ∀ {l : List (List UInt8)} {y : List UInt8}, y ∈ l.takeWhile f → f y = true
  | [], _, h => by simp at h
  | a :: l, y, h => by
    rw [List.takeWhile_cons] at h
    split at h
    · rcases List.mem_cons.1 h with rfl | h
      · assumption
      · exact takeWhile_memI h
    · simp at h
theorem dropWhile_sortedI (x : List UInt8) : ∀ (l : List (List UInt8)), SortedI l → ∀ y ∈ l.dropWhile (lessL · x), lessL y x = false
  | [], _, y, h => by simp at h
  | a :: l, hs, y, h => by
    have hs' := List.pairwise_cons.1 hs
    rw [List.dropWhile_cons] at h
    split at h
    · exact dropWhile_sortedI x l hs'.2 y h
    · rename_i ha
      have ha : lessL a x = false := by simpa using ha
      rcases List.mem_cons.1 h with rfl | h
      · exact ha
      · cases h9 : lessL y x with
        | false => rfl
        | true => rw [lessL_trans _ _ _ (hs'.1 y h) h9] at ha; simp at ha
/-- Entries that were not read. -/
def unreadE (es : List En) (rd : List (List UInt8)) : List En := es.filter fun x => !(rd.contains x.id)
end Go.Proofs.YtlcljanibjdejaaGreat

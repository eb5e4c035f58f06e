/- Join: joined. The last / of a path, and its first part. A path without its dots. A link in the light of a base: resolved. Resolve. Safe: bare. What must stand in clean trees: attrMustStand, mustStand. Nodes that were put one behind the other, texts joined, as a function. Clean trees, as functions: all text stays; what is clean is right, and cleaned again it is the same. Package nodes: List: nodes that were put, texts joined; endText, All. Package nodes: List: Put of one node, All. An element that is made: Kp. Package nodes: List: All, and a list that has just been made. Nodes are put, each as it must be: put, cleaned. -/
import Derived.Test.YtlcljanibjdejaaGreatSo15
import Derived.Lib.IndexLaws
import Derived.RegionDies
namespace Go.Proofs.YtlcljanibjdejaaGreat
open Go.RowKit
theorem bld_newU (w : World) : IsBld w.heap.size w.heap.size [] (w.alloc (.cells #[.pointer none, .slice none 0 0] 134)) :=
  .inl ⟨Nat.le_refl _, .slice none 0 0, heap_alloc_new _ _, ⟨rfl, .inl ⟨rfl, rfl⟩⟩, by simp [Value.ownBlock]⟩
theorem KeepsB.url {B b : Nat} {w w' : World} {q : Nat} {u : UrlT} (h : KeepsB B b w w') (hU : IsUrl w q u) (hq : q < B) (hb : q ≠ b) : IsUrl w' q u := by
  rw [IsUrl, h.block q hU.lt hb (.inl hq)]; exact hU
end Go.Proofs.YtlcljanibjdejaaGreat
namespace Go.Proofs.YtlcljanibjdejaaGreat
open Go.RowKit
/-- Where the last / stands; -1: nowhere. -/
def LastAt (l : List UInt8) (i : Int) : Prop := (i = -1 ∧ ∀ d ∈ l, d ≠ 47) ∨ ∃ k : Nat, i = k ∧ ∃ h : k < l.length, l[k] = 47 ∧ ∀ j (hj : j < l.length), k < j → l[j] ≠ 47
theorem LastAt.split {l : List UInt8} {k : Nat} (h : k < l.length) (h1 : l[k] = 47) (h2 : ∀ j (hj : j < l.length), k < j → l[j] ≠ 47) : l = l.take k ++ 47 :: l.drop (k + 1) ∧ ∀ d ∈ l.drop (k + 1), d ≠ 47 := by
  refine ⟨?_, ?_⟩
  · rw [← h1, List.getElem_cons_drop, List.take_append_drop]
  · intro d hd
    obtain ⟨j, hj, rfl⟩ := List.getElem_of_mem hd
    rw [List.getElem_drop]
    exact h2 _ _ (by omega)
theorem LastAt.cut {l : List UInt8} {i : Int} (h : LastAt l i) : cutLast l = l.take (max i 0).toNat ∧ (max i 0).toNat ≤ l.length := by
  rcases h with ⟨rfl, hn⟩ | ⟨k, rfl, hk, h1, h2⟩
  · rw [cutLast_none l hn]
    exact ⟨rfl, Nat.zero_le _⟩
  · obtain ⟨e, hn⟩ := LastAt.split hk h1 h2
    have : cutLast l = l.take k := by
      conv => lhs; rw [e]
      exact cutLast_at _ _ hn
    rw [this]
    have e2 : (max (k : Int) 0).toNat = k := by omega
    rw [e2]
    exact ⟨rfl, by omega⟩
theorem LastAt.up {l : List UInt8} {i : Int} (h : LastAt l i) : upSl l = l.take (i + 1).toNat ∧ -1 ≤ i ∧ i < l.length := by
  rcases h with ⟨rfl, hn⟩ | ⟨k, rfl, hk, h1, h2⟩
  · rw [upSl_none l hn]; simp; omega
  · obtain ⟨e, hn⟩ := LastAt.split hk h1 h2
    have : upSl l = l.take (k + 1) := by
      conv => lhs; rw [e]
      rw [upSl_at _ _ hn, List.take_succ_eq_append_getElem hk, h1]
    rw [this]
    have e2 : ((k : Int) + 1).toNat = k + 1 := by omega
    rw [e2]
    exact ⟨rfl, by omega, by omega⟩
end Go.Proofs.YtlcljanibjdejaaGreat
namespace Go.Proofs.YtlcljanibjdejaaGreat
open Go.RowKit
theorem IsStr.free {w : World} {p : Nat} {x : ByteArray} (h : IsStr w p x) : w.frozen? ⟨p, 0, none⟩ = false := by
  simp [World.frozen?, IsStr] at h ⊢; simp [h]
theorem IsStr.set {w : World} {p : Nat} {x : ByteArray} (h : IsStr w p x) (y : ByteArray) : IsStr (w.setCell ⟨p, 0, none⟩ (.string y)) p y := by
  simp [World.setCell, IsStr, Array.getElem?_modify] at h ⊢; simp [h]
/-- What holds while dots go: what is left, what has come. -/
structure Do (w : World) (N : Nat) (R : List UInt8) (v : Value) (W : World) (X : ByteArray) (o : List UInt8) : Prop where
  str : IsStr W w.heap.size X
  row : W.ownsRow (w.heap.size + 1) 5 1 v o.length (Lib.byteCells o)
  left : dotsR X.data.toList o = R
  len : X.size + o.length ≤ N
  keeps : Keeps [] w W
theorem Do.ne {w : World} {N : Nat} {R : List UInt8} {v : Value} {W : World} {X : ByteArray} {o : List UInt8} (h : Do w N R v W X o) : v.ownBlock ≠ some w.heap.size := by
  intro e
  have := (h.row.lt _ e).1
  omega
theorem Do.next {w : World} {N : Nat} {R : List UInt8} {v : Value} {W : World} {X : ByteArray} {o : List UInt8} (h : Do w N R v W X o) (hne : X.data.toList ≠ []) (Y : ByteArray) (o' : List UInt8) (v' : Value) (W' : World)
    (hs : dotStep X.data.toList o = (Y.data.toList, o')) (hS : IsStr W' w.heap.size Y) (hr : W'.ownsRow (w.heap.size + 1) 5 1 v' o'.length (Lib.byteCells o')) (hk : Keeps [] w W') : Do w N R v' W' Y o' := by
  have h1 := dotsR_step X.data.toList o hne
  have h2 := dotStep_less X.data.toList o hne
  have h3 := h.len
  have h4 := len_size X
  have h5 := len_size Y
  rw [hs] at h1 h2
  simp only at h1 h2
  exact ⟨hS, hr, h1.symm.trans h.left, by omega, hk⟩
end Go.Proofs.YtlcljanibjdejaaGreat
namespace Go.Proofs.YtlcljanibjdejaaGreat
open Go.RowKit
structure Rs (w : World) (x y r : Nat) (b : UrlT) (W : World) (u : UrlT) : Prop where
  base : IsUrl W x b
  url : IsUrl W y u
  res : IsUrl W r noUrl
  keeps : Keeps [] w W
  xw : w.heap.size ≤ x
  yw : w.heap.size ≤ y
  rw : w.heap.size ≤ r
  ne1 : x ≠ y
  ne2 : y ≠ r
  ne3 : x ≠ r
theorem Rs.move {w : World} {x y r : Nat} {b : UrlT} {W W' : World} {u : UrlT} (h : Rs w x y r b W u) (hk : Keeps [] W W') : Rs w x y r b W' u :=
  ⟨h.base.keeps hk (by simp), h.url.keeps hk (by simp), h.res.keeps hk (by simp), h.keeps.trans hk, h.xw, h.yw, h.rw, h.ne1, h.ne2, h.ne3⟩
theorem Rs.put {w : World} {x y r : Nat} {b : UrlT} {W : World} {u u' : UrlT} (h : Rs w x y r b W u) {j : Nat} {v : Value} (hU : IsUrl (W.setCell ⟨y, j, none⟩ v) y u') : Rs w x y r b (W.setCell ⟨y, j, none⟩ v) u' := by
  have hk : Keeps [y] W (W.setCell ⟨y, j, none⟩ v) := (Keeps.refl [y] W).setCell (p := ⟨y, j, none⟩) (by simp) v
  exact ⟨h.base.keeps hk (by simpa using h.ne1), hU, h.res.keeps hk (by simpa using h.ne2.symm), h.keeps.setCell (.inr h.yw) v, h.xw, h.yw, h.rw, h.ne1, h.ne2, h.ne3⟩
theorem Keeps.off {S : List Nat} {w w' : World} (h : Keeps S w.drew w') : Keeps S w w' := ⟨h.os, h.tape, h.output, h.size, h.block⟩
end Go.Proofs.YtlcljanibjdejaaGreat
namespace Go.Proofs.YtlcljanibjdejaaGreat
open Go.RowKit
/-- What is split of a text is no longer than that. -/
theorem split_len (l : List UInt8) : (splitL l).scheme.length ≤ l.length ∧ (splitL l).authority.length ≤ l.length ∧ (splitL l).path.length ≤ l.length ∧ (splitL l).query.length ≤ l.length ∧ (splitL l).fragment.length ≤ l.length := by
  have tw : ∀ (f : UInt8 → Bool) (k : Nat), ((l.drop k).takeWhile f).length ≤ l.length := fun f k => by
    have h1 : ((l.drop k).takeWhile f).length ≤ (l.drop k).length := (List.takeWhile_sublist _).length_le
    rw [List.length_drop] at h1
    omega
  refine ⟨?_, ?_, ?_, ?_, ?_⟩
  · show ((schemeL l).getD []).length ≤ _
    unfold schemeL
    split
    · have := tw schB 0
      simpa using this
    · simp
  · show (auL l).length ≤ _
    unfold auL
    split
    · exact tw _ _
    · simp
  · exact tw _ _
  · show (quL l).length ≤ _
    unfold quL
    split
    · exact tw _ _
    · simp
  · show (frL l).length ≤ _
    unfold frL
    split
    · rw [List.length_drop]; omega
    · simp
end Go.Proofs.YtlcljanibjdejaaGreat
namespace Go.Proofs.YtlcljanibjdejaaGreat
open Go.RowKit
theorem enters226 : Enters 226 := enters_of Tryz.func226 (by kernel_rfl) (by kernel_rfl)
theorem enters227 : Enters 227 := enters_of Tryz.func227 (by kernel_rfl) (by kernel_rfl)
def gtB (c : UInt8) : Bool := decide (32 < c.toNat)
def leB (c : UInt8) : Bool := decide (c.toNat ≤ 32)
set_option maxHeartbeats 400000 in
theorem gt_any (c : UInt8) (w : World) : Calls Tryz.prog 226 #[.int .u8 c.toNat] w fun e w' => e = .returned (.bool (gtB c)) ∧ w' = w := by
  unfold gtB
  go_enter Tryz.func226, Tryz.ntmps226
  go_wp2
  go_ret
  refine ⟨ret_bool ?_, rfl⟩
  rw [Bool.eq_iff_iff]; simp; omega
set_option maxHeartbeats 400000 in
theorem le_any (c : UInt8) (w : World) : Calls Tryz.prog 227 #[.int .u8 c.toNat] w fun e w' => e = .returned (.bool (leB c)) ∧ w' = w := by
  unfold leB
  go_enter Tryz.func227, Tryz.ntmps227
  go_wp2
  go_ret
  refine ⟨ret_bool ?_, rfl⟩
  rw [Bool.eq_iff_iff]; simp; omega
theorem bare_app (x y : List UInt8) : bareL (x ++ y) = bareL x ++ bareL y := by simp [bareL]
theorem bare_tw (f : UInt8 → Bool) (l : List UInt8) : ∀ d ∈ l.takeWhile f, f d = true := fun d hd => List.all_eq_true.1 (List.all_takeWhile (p := f) (l := l)) d hd
/-- One round of bare. -/
theorem bare_step (l : List UInt8) (k : Nat) : bareL (l.take (k + ((l.drop k).takeWhile gtB).length + ((l.drop (k + ((l.drop k).takeWhile gtB).length)).takeWhile leB).length)) = bareL (l.take k) ++ (l.drop k).takeWhile gtB := by
  have tk : ∀ (f : UInt8 → Bool) (k : Nat), l.take (k + ((l.drop k).takeWhile f).length) = l.take k ++ (l.drop k).takeWhile f := fun f k => by
    rw [List.take_add]
    congr 1
    exact (List.prefix_iff_eq_take.1 (List.takeWhile_prefix _)).symm
  rw [tk leB, tk gtB, bare_app, bare_app]
  have e1 : bareL ((l.drop k).takeWhile gtB) = (l.drop k).takeWhile gtB := by
    unfold bareL
    exact List.filter_eq_self.2 (bare_tw gtB (l.drop k))
  have e2 : bareL ((l.drop (k + ((l.drop k).takeWhile gtB).length)).takeWhile leB) = [] := by
    unfold bareL
    refine List.filter_eq_nil_iff.2 fun d hd => ?_
    have := bare_tw leB _ d hd
    simp [leB] at this ⊢
    exact this
  rw [e1, e2, List.append_nil]
theorem bare_more (l : List UInt8) (k : Nat) (h : k < l.length) : k < k + ((l.drop k).takeWhile gtB).length + ((l.drop (k + ((l.drop k).takeWhile gtB).length)).takeWhile leB).length := by
  cases hg : gtB l[k]
  · have e1 : (l.drop k).takeWhile gtB = [] := by rw [List.drop_eq_getElem_cons h, List.takeWhile_cons, hg]; rfl
    have hl : leB l[k] = true := by simp [gtB] at hg; simpa [leB] using hg
    have e2 : 0 < ((l.drop k).takeWhile leB).length := by rw [List.drop_eq_getElem_cons h, List.takeWhile_cons, hl]; exact Nat.succ_pos _
    rw [e1, List.length_nil, Nat.add_zero]
    omega
  · have e1 : 0 < ((l.drop k).takeWhile gtB).length := by rw [List.drop_eq_getElem_cons h, List.takeWhile_cons, hg]; exact Nat.succ_pos _
    omega
theorem bare_len (l : List UInt8) : (bareL l).length ≤ l.length := List.length_filter_le _ _
theorem IsBld.keepsT {B d b : Nat} {l : List UInt8} {w w' : World} (h : IsBld B d l w) (hk : Keeps [b] w w') (hb : b < B) : IsBld B d l w' := by
  rcases h with ⟨hB, v, hb', ho, hne⟩ | ⟨hB, v, hb', ho, hne⟩
  · exact .inl ⟨hB, v, by rw [hk.block d (lt_of_block hb') (by simp; omega)]; exact hb', hk.owns ho (fun g hg => by have := (ho.lt g hg).1; simp; omega), hne⟩
  · exact .inr ⟨hB, v, by rw [hk.block d (lt_of_block hb') (by simp; omega)]; exact hb', hk.owns ho (fun g hg => by have := (ho.lt g hg).1; simp; omega), hne⟩
theorem KeepsB.text {B d : Nat} {w w' : World} {b : Nat} {s : ByteArray} {k : Nat} (h : KeepsB B d w w') (hT : IsText w b s k) (hb : b < B) (hd : b ≠ d) : IsText w' b s k := by
  rw [IsText, h.block b hT.lt hd (.inl hb)]; exact hT
set_option maxRecDepth 4000 in
set_option maxHeartbeats 4000000 in
theorem bare_any (s : ByteArray) (w : World) (hs : s.size ≤ 3000) :
    Calls Tryz.prog 150 #[.string s] w fun e w' => e = .returned (.string ⟨(bareL s.data.toList).toArray⟩) ∧ Keeps [] w w' := by
  have p1 := hide (fun k (w : World) hT hk => pass_of 226 gtB enters226 gt_any w.heap.size s k w hs hT hk)
  have P1 := hide (fun b k (w : World) hT hk => pass_of 226 gtB enters226 gt_any b s k w hs hT hk)
  have P2 := hide (fun b k (w : World) hT hk => pass_of 227 leB enters227 le_any b s k w hs hT hk)
  clear p1
  have hln := len_size s
  go_enter Tryz.func150, Tryz.ntmps150
  go_wp2_with fail
  refine (new_any s _).mono ?_
  rintro e w1 ⟨rfl, rfl⟩
  go_wp2_with fail
  have hT0 : IsText ((w.alloc (.cells #[.string s, .int .i64 0] 181)).alloc (.cells #[.pointer none, .slice none 0 0] 134)) w.heap.size s 0 := by
    unfold IsText
    rw [Below.heap_alloc _ _ _ (by simp)]
    exact heap_alloc_new _ _
  have hB0 : IsBld (w.heap.size + 1) (w.heap.size + 1) [] ((w.alloc (.cells #[.string s, .int .i64 0] 181)).alloc (.cells #[.pointer none, .slice none 0 0] 134)) := by
    have := bld_newU (w.alloc (.cells #[.string s, .int .i64 0] 181))
    rw [show (w.alloc (.cells #[.string s, .int .i64 0] 181)).heap.size = w.heap.size + 1 from by simp] at this
    exact this
  have hK0 : Keeps [] w ((w.alloc (.cells #[.string s, .int .i64 0] 181)).alloc (.cells #[.pointer none, .slice none 0 0] 134)) := ((Keeps.refl [] w).alloc _).alloc _
  have hZ0 : w.heap.size + 1 ≤ ((w.alloc (.cells #[.string s, .int .i64 0] 181)).alloc (.cells #[.pointer none, .slice none 0 0] 134)).heap.size := by simp
  go_loopw [9] (fun _ wr => ∃ k : Nat, k ≤ s.size ∧ IsText wr w.heap.size s k ∧ IsBld (w.heap.size + 1) (w.heap.size + 1) (bareL (s.data.toList.take k)) wr ∧ Keeps [] w wr ∧ w.heap.size + 1 ≤ wr.heap.size) (fun _ wr => s.size - (intOf ((wr.cell? ⟨w.heap.size, 1, none⟩).getD undef)).toNat)
  case atStart => exact ⟨0, Nat.zero_le _, hT0, by simpa [bareL] using hB0, hK0, hZ0⟩
  case round =>
    obtain ⟨k, hk, hT, hB, hK, hZ⟩ := hrel
    clear hT0 hB0 hK0 hZ0
    have c1 := hT.cell1
    by_cases hlt : k < s.size
    · have hd : decide (s.size ≤ k) = false := by simp; omega
      have HS := hide (bare_step s.data.toList k)
      have HM := hide (bare_more s.data.toList k (by rw [hln]; exact hlt))
      have l1 := takeWhile_le gtB s k hk
      have hbl : (bareL (s.data.toList.take k)).length ≤ 3000 := by
        have h1 := bare_len (s.data.toList.take k)
        have h2 : (s.data.toList.take k).length ≤ s.data.toList.length := (List.take_sublist _ _).length_le
        omega
      go_wp2_with fail
      refine (done_any _ s k _ hT).mono ?_
      rintro e w2 ⟨rfl, n2, rfl⟩
      rw [hd]
      have hT2 : IsText (wr.drewN n2) w.heap.size s k := hT
      go_wp2_with fail
      refine (P1.out _ k _ hT2 hk).mono ?_
      rintro e w3 ⟨rfl, hT3, hk3⟩
      have hB3 := hB.keepsT (keeps_of_drewN hk3) (by omega)
      have hK3 : Keeps [] w w3 := (hK.mono (T := [w.heap.size]) (by simp)).trans (keeps_of_drewN hk3) |>.mono (fun i hi hlt => by simp at hi; omega)
      have hz3 := hk3.size
      have l2 := takeWhile_le leB s (k + ((s.data.toList.drop k).takeWhile gtB).length) l1
      generalize hG : (s.data.toList.drop k).takeWhile gtB = G at *
      clear hG
      go_wp2_with fail
      refine (write_all (w.heap.size + 1) (w.heap.size + 1) _ G _ hB3 (by omega) (by simp at hz3; omega)).mono ?_
      rintro e w4 ⟨rfl, hB4, hk4⟩
      have hT4 := hk4.text hT3 (by omega) (by omega)
      have hK4 : Keeps [] w w4 := KeepsB.nil hK3 hk4 (by omega) (Nat.le_refl _)
      have hz4 := hk4.size
      go_wp2_with fail
      refine (P2.out _ _ _ hT4 l1).mono ?_
      rintro e w5 ⟨rfl, hT5, hk5⟩
      have hB5 := hB4.keepsT hk5 (by omega)
      rw [← HS.out] at hB5
      have hK5 : Keeps [] w w5 := (hK4.mono (T := [w.heap.size]) (by simp)).trans hk5 |>.mono (fun i hi hlt => by simp at hi; omega)
      have hz5 := hk5.size
      go_wp2_with fail
      go_roundw
      case rel => exact ⟨_, l2, hT5, hB5, hK5, by simp at hz3; omega⟩
      case measure =>
        have h5 := hT5.cell1
        rw [h5, c1]
        simp only [intOf, Option.getD_some]
        have := HM.out
        omega
    · have hd : decide (s.size ≤ k) = true := by simp; omega
      have he : s.data.toList.take k = s.data.toList := List.take_of_length_le (by rw [hln]; omega)
      rw [he] at hB
      obtain ⟨A, hA⟩ : ∃ A, bareL s.data.toList = A := ⟨_, rfl⟩
      rw [hA] at hB
      have HA := hide hA
      clear hA he
      go_wp2_with fail
      refine (done_any _ s k _ hT).mono ?_
      rintro e w2 ⟨rfl, n2, rfl⟩
      rw [hd]
      have hB2 : IsBld (w.heap.size + 1) (w.heap.size + 1) A (wr.drewN n2) := hB
      go_wp2_with fail
      refine (Tryz.Builder_String_any _ _ A _ hB2 (by simpa using hZ)).mono ?_
      rintro e w3 ⟨rfl, hb3⟩
      have hK3 : Keeps [] w w3 := by
        have h6 : Below w.heap.size wr w3 := ⟨hb3.os, hb3.tape, hb3.output, hb3.size, fun k hk => hb3.block k (by omega)⟩
        exact ⟨h6.os.trans hK.os, h6.tape.trans hK.tape, h6.output.trans hK.output, Nat.le_trans hK.size h6.size, fun k hk _ => (h6.block k hk).trans (hK.block k hk List.not_mem_nil)⟩
      go_wp2_with fail
      go_ret
      exact ⟨by rw [HA.out]; simp, hK3⟩
set_option maxHeartbeats 400000 in
theorem safe_long (s : ByteArray) (w : World) (hm : s.size ≤ maxLen) (h : 3000 < s.size) :
    Calls Tryz.prog 75 #[.string s] w fun e w' => e = .returned (.tuple #[.bool false, .int .i64 2]) ∧ w' = w := by
  unfold maxLen at hm
  have hd : decide ((3000 : Int) < (s.size : Int)) = true := by simp; omega
  go_enter Tryz.func75, Tryz.ntmps75
  go_wp2_with fail
  go_ret2
  exact ⟨rfl, rfl⟩
theorem field0 (u : UrlT) (w : World) : (Instr.field 99 (.agg #[.string ⟨u.scheme.toArray⟩, .string ⟨u.authority.toArray⟩, .string ⟨u.path.toArray⟩, .string ⟨u.query.toArray⟩, .string ⟨u.fragment.toArray⟩, .bool u.hs, .bool u.ha, .bool u.hq, .bool u.hf]) 0).run Tryz.prog w = .ok (.string ⟨u.scheme.toArray⟩) w := by
  kernel_rfl
set_option maxRecDepth 4000 in
set_option maxHeartbeats 2000000 in
theorem safe_any (s : ByteArray) (w : World) (hs : s.size ≤ 3000) (hM : HasMax w) :
    Calls Tryz.prog 75 #[.string s] w fun e w' => e = .returned (.tuple #[.bool (safeL s.data.toList), .int .i64 0]) ∧ Keeps [] w w' := by
  have hd : decide ((3000 : Int) < (s.size : Int)) = false := by simp; omega
  have hb := hide (bare_any s w hs)
  have hbl := bare_len s.data.toList
  rw [len_size] at hbl
  have hsp := hide (fun w hM => split_any ⟨(bareL s.data.toList).toArray⟩ w (by rw [str_size]; omega) hM)
  rw [str_list] at hsp
  have hsl := split_len (bareL s.data.toList)
  have hlo := hide (fun w => lower_any ⟨(splitL (bareL s.data.toList)).scheme.toArray⟩ w (by rw [str_size]; omega))
  rw [str_list] at hlo
  have HS : Hid (safeL s.data.toList = okS (lowerL (splitL (bareL s.data.toList)).scheme)) := rfl
  obtain ⟨A, hA⟩ : ∃ A, safeL s.data.toList = A := ⟨_, rfl⟩
  rw [hA] at HS ⊢
  clear hA hbl hsl
  generalize bareL s.data.toList = B at *
  generalize splitL B = u at *
  generalize lowerL u.scheme = L at *
  unfold urlV urlCells at hsp
  have hfd := field0 u
  have q1 : ∀ l : List UInt8, ((⟨L.toArray⟩ : ByteArray).toList == l) = (L == l) := fun l => by rw [ByteArray.toList_eq]
  have HQ : Hid (A = (L == [104, 116, 116, 112] || L == [104, 116, 116, 112, 115] || L == [109, 97, 105, 108, 116, 111])) := HS.out
  cases h1 : (L == [104, 116, 116, 112]) <;> cases h2 : (L == [104, 116, 116, 112, 115]) <;> cases h3 : (L == [109, 97, 105, 108, 116, 111])
  all_goals
    rw [h1, h2, h3] at HQ
    have p1 := (q1 [104, 116, 116, 112]).trans h1
    have p2 := (q1 [104, 116, 116, 112, 115]).trans h2
    have p3 := (q1 [109, 97, 105, 108, 116, 111]).trans h3
    clear q1 HS
    go_enter Tryz.func75, Tryz.ntmps75
    go_wp2_with fail
    refine hb.out.mono ?_
    rintro e w1 ⟨rfl, hk1⟩
    go_wp2_with fail
    refine (hsp.out _ (hM.keeps hk1 (by simp))).mono ?_
    rintro e w2 ⟨rfl, hk2⟩
    go_wp2_with fail
    refine (hlo.out _).mono ?_
    rintro e w3 ⟨rfl, hk3⟩
    go_wp2_with fail
    go_ret2
    exact ⟨by rw [HQ.out]; rfl, (hk1.trans hk2).trans hk3⟩
end Go.Proofs.YtlcljanibjdejaaGreat
namespace Go.Proofs.YtlcljanibjdejaaGreat
open Go.RowKit Go.Maps
set_option maxHeartbeats 4000000 in
theorem attrMust_any (el : List UInt8) (a : Pair) (w : World) (hM : HasMax w) (hv : a.2.length ≤ maxLen) :
    Calls Tryz.prog 173 #[.string ⟨el.toArray⟩, .agg #[.string ⟨a.1.toArray⟩, .string ⟨a.2.toArray⟩]] w fun e w' =>
      (attrE el a = 0 ∧ e = .returned (.tuple #[]) ∨ attrE el a ≠ 0 ∧ e = .panicked (stopped (attrE el a))) ∧ Keeps [] w w' := by
  obtain ⟨n, v⟩ := a
  simp only at hv
  have hkA : Keeps [] w (w.alloc (.cells #[.string ⟨n.toArray⟩, .string ⟨v.toArray⟩] 52)) := (Keeps.refl [] w).alloc _
  have hA := heap_alloc_new w (.cells #[.string ⟨n.toArray⟩, .string ⟨v.toArray⟩] 52)
  have c0 : (w.alloc (.cells #[.string ⟨n.toArray⟩, .string ⟨v.toArray⟩] 52)).cell? ⟨w.heap.size, 0, none⟩ = some (.string ⟨n.toArray⟩) := cell_blk hA 0
  have c1 : (w.alloc (.cells #[.string ⟨n.toArray⟩, .string ⟨v.toArray⟩] 52)).cell? ⟨w.heap.size, 1, none⟩ = some (.string ⟨v.toArray⟩) := cell_blk hA 1
  have hM1 := hM.keeps hkA List.not_mem_nil
  have ha := hide (fun w => isAllowedAttr_any el n w)
  have hl := hide (fun w => isLink_any n w)
  unfold attrE
  simp only
  cases h1 : allowedA el n
  · rw [if_pos rfl]
    rw [h1] at ha
    go_enter Tryz.func173, Tryz.ntmps173
    go_wp2_with fail
    refine (ha.out _).mono ?_
    rintro e w1 ⟨rfl, h9⟩
    subst h9
    go_wp2_with fail
    refine (with_any 7 _).mono ?_
    rintro e w1 ⟨rfl, h9⟩
    subst h9
    exact ⟨rfl, .inr ⟨by decide, rfl⟩, hkA⟩
  · rw [if_neg (by simp)]
    rw [h1] at ha
    cases h2 : linkN n
    · rw [if_pos rfl]
      rw [h2] at hl
      go_enter Tryz.func173, Tryz.ntmps173
      go_wp2_with fail
      refine (ha.out _).mono ?_
      rintro e w1 ⟨rfl, h9⟩
      subst h9
      go_wp2_with fail
      refine (hl.out _).mono ?_
      rintro e w1 ⟨rfl, h9⟩
      subst h9
      go_wp2_with fail
      go_end0
      exact ⟨.inl ⟨trivial, rfl⟩, hkA⟩
    · rw [if_neg (by simp)]
      rw [h2] at hl
      by_cases h3 : 3000 < v.length
      · rw [if_pos h3]
        have hs := hide (fun w => safe_long ⟨v.toArray⟩ w hv h3)
        have hm := hide (fun w => mustBool_no false 2 (by decide) w)
        go_enter Tryz.func173, Tryz.ntmps173
        go_wp2_with fail
        refine (ha.out _).mono ?_
        rintro e w1 ⟨rfl, h9⟩
        subst h9
        go_wp2_with fail
        refine (hl.out _).mono ?_
        rintro e w1 ⟨rfl, h9⟩
        subst h9
        go_wp2_with fail
        refine (hs.out _).mono ?_
        rintro e w1 ⟨rfl, h9⟩
        subst h9
        go_wp2_with fail
        refine (hm.out _).mono ?_
        rintro e w1 ⟨rfl, h9⟩
        subst h9
        exact ⟨rfl, .inr ⟨by decide, rfl⟩, hkA⟩
      · rw [if_neg h3]
        have hs := hide (fun w hM => safe_any ⟨v.toArray⟩ w (by rw [str_size]; omega) hM)
        rw [str_list] at hs
        cases h4 : safeL v
        · rw [if_pos rfl]
          rw [h4] at hs
          have hm := hide (fun w => mustBool_ok false w)
          go_enter Tryz.func173, Tryz.ntmps173
          go_wp2_with fail
          refine (ha.out _).mono ?_
          rintro e w1 ⟨rfl, h9⟩
          subst h9
          go_wp2_with fail
          refine (hl.out _).mono ?_
          rintro e w1 ⟨rfl, h9⟩
          subst h9
          go_wp2_with fail
          refine (hs.out _ hM1).mono ?_
          rintro e w1 ⟨rfl, hk1⟩
          go_wp2_with fail
          refine (hm.out _).mono ?_
          rintro e w2 ⟨rfl, h9⟩
          subst h9
          go_wp2_with fail
          refine (with_any 4 _).mono ?_
          rintro e w2 ⟨rfl, h9⟩
          subst h9
          exact ⟨rfl, .inr ⟨by decide, rfl⟩, hkA.trans hk1⟩
        · rw [if_neg (by simp)]
          rw [h4] at hs
          have hm := hide (fun w => mustBool_ok true w)
          go_enter Tryz.func173, Tryz.ntmps173
          go_wp2_with fail
          refine (ha.out _).mono ?_
          rintro e w1 ⟨rfl, h9⟩
          subst h9
          go_wp2_with fail
          refine (hl.out _).mono ?_
          rintro e w1 ⟨rfl, h9⟩
          subst h9
          go_wp2_with fail
          refine (hs.out _ hM1).mono ?_
          rintro e w1 ⟨rfl, hk1⟩
          go_wp2_with fail
          refine (hm.out _).mono ?_
          rintro e w2 ⟨rfl, h9⟩
          subst h9
          go_wp2_with fail
          go_end0
          exact ⟨.inl ⟨trivial, rfl⟩, hkA.trans hk1⟩
theorem attrsE_drop (el : List UInt8) (l : List Pair) (k : Nat) (hk : k < l.length) : attrsE el (l.drop k) = if attrE el l[k] = 0 then attrsE el (l.drop (k + 1)) else attrE el l[k] := by
  rw [List.drop_eq_getElem_cons hk]
  rfl
set_option maxRecDepth 4000 in
set_option maxHeartbeats 8000000 in
theorem mustStand_any (n : List UInt8) (t : List UInt8) (l : List Pair) (ao : Option Addr) (an ac : Nat) (kv : Value) (w : World) (hM : HasMax w) (hv : Lies w (.slice ao an ac) l.length 2 (pairCells l)) (hlen : ∀ p ∈ l, p.2.length ≤ maxLen) (hkv : ∃ o m c, kv = .slice o m c) :
    Calls Tryz.prog 89 #[.agg #[.string ⟨n.toArray⟩, .slice ao an ac, .string ⟨t.toArray⟩, kv]] w fun e w' =>
      (standE n l = 0 ∧ e = .returned (.tuple #[]) ∨ standE n l ≠ 0 ∧ e = .panicked (stopped (standE n l))) ∧ Keeps [] w w' := by
  obtain ⟨ko, km, kc, rfl⟩ := hkv
  obtain ⟨o, c, hvv, h1, h2⟩ := hv.form
  simp only [Value.slice.injEq] at hvv
  obtain ⟨rfl, rfl, rfl⟩ := hvv
  obtain ⟨W, hW⟩ : ∃ W, w.alloc (.cells #[.string ⟨n.toArray⟩, .slice ao l.length ac, .string ⟨t.toArray⟩, .slice ko km kc] 45) = W := ⟨_, rfl⟩
  have hkA : Keeps [] w W := by rw [← hW]; exact (Keeps.refl [] w).alloc _
  have hA : W.heap[w.heap.size]? = some (.cells #[.string ⟨n.toArray⟩, .slice ao l.length ac, .string ⟨t.toArray⟩, .slice ko km kc] 45 (0, 0)) := by rw [← hW]; exact heap_alloc_new w _
  have cell0 : ∀ W', Keeps [] W W' → W'.cell? ⟨w.heap.size, 0, none⟩ = some (.string ⟨n.toArray⟩) := fun W' hk => cell_keeps hk (cell_blk hA 0)
  have cell1 : ∀ W', Keeps [] W W' → W'.cell? ⟨w.heap.size, 1, none⟩ = some (.slice ao l.length ac) := fun W' hk => cell_keeps hk (cell_blk hA 1)
  have C0 := hide cell0
  have C1 := hide cell1
  have hM1 := hide (hM.keeps hkA List.not_mem_nil)
  have hal := hide (fun w => isAllowed_any n w)
  have hcs := hide (fun w' (hk : Keeps [] w w') => containsSrc_any w' _ l (hv.keeps hk))
  have hE := enters175
  unfold Enters at hE
  have d0 := cell0 W (Keeps.refl _ _)
  have d1 := cell1 W (Keeps.refl _ _)
  unfold maxLen at h2
  obtain ⟨R, hR⟩ : ∃ R, standE n l = R := ⟨_, rfl⟩
  rw [hR]
  unfold standE at hR
  clear cell0 cell1 hA
  cases he : n.isEmpty
  · rw [he, if_neg (by simp)] at hR
    have p0 := (emptyB n)
    cases ha : allowedN n
    · rw [ha, if_pos rfl] at hR
      rw [ha] at hal
      subst hR
      clear p0
      go_enter Tryz.func89, Tryz.ntmps89
      go_wp2_with fail
      refine (hal.out _).mono ?_
      rintro e w1 ⟨rfl, h9⟩
      obtain rfl : W = w1 := h9.symm
      go_wp2_with fail
      refine (with_any 7 _).mono ?_
      rintro e w1 ⟨rfl, h9⟩
      subst h9
      exact ⟨rfl, .inr ⟨by decide, rfl⟩, hkA⟩
    · rw [ha, if_neg (by simp)] at hR
      rw [ha] at hal
      obtain ⟨A, hA⟩ : ∃ A, attrsE n l = A := ⟨_, rfl⟩
      rw [hA] at hR
      have HR := hide hR
      have HA := hide hA
      clear p0 hR hA
      go_enter Tryz.func89, Tryz.ntmps89
      go_wp2_with fail
      refine (hal.out _).mono ?_
      rintro e w1 ⟨rfl, h9⟩
      obtain rfl : W = w1 := h9.symm
      go_wp2_with fail
      go_loopw [16] (fun i wr => ∃ k : Nat, k ≤ l.length ∧ i = .int .i64 k ∧ Keeps [] W wr ∧ Hid (attrsE n (l.drop k) = A)) (fun i _ => l.length - (intOf i).toNat)
      case atStart => exact ⟨0, Nat.zero_le _, rfl, Keeps.refl _ _, HA⟩
      case round =>
        obtain ⟨k, hk, rfl, hkw, hC⟩ := hrel
        clear HA d0 d1
        have d0 := C0.out wr hkw
        have d1 := C1.out wr hkw
        by_cases hlt : k < l.length
        · obtain ⟨g, x, rfl, hc⟩ := (hv.keeps (hkA.trans hkw)).addr (by omega)
          have a0 := hc _ _ (pair_at0 l k hlt)
          have a1 := hc _ _ (pair_at1 l k hlt)
          rw [← Nat.add_assoc] at a1
          have hC1 := hC.out
          rw [attrsE_drop n l k hlt] at hC1
          have HC1 := hide hC1
          have hvl := hlen _ (List.getElem_mem hlt)
          have hM2 := hM1.out.keeps hkw List.not_mem_nil
          clear hC hC1 hc
          generalize l[k] = p at *
          obtain ⟨pn, pv⟩ := p
          simp only at a0 a1 hvl
          have hkB : Keeps [] wr (wr.alloc (.cells #[.string ⟨pn.toArray⟩, .string ⟨pv.toArray⟩] 52)) := (Keeps.refl [] wr).alloc _
          have hcl := hide (attrMust_any n (pn, pv) _ (hM2.keeps hkB List.not_mem_nil) hvl)
          have d0a : ∀ o, (wr.alloc o).cell? ⟨w.heap.size, 0, none⟩ = some (.string ⟨n.toArray⟩) := fun o => C0.out _ (hkw.alloc o)
          generalize attrE n (pn, pv) = E at *
          go_wp2_with fail
          refine hcl.out.mono ?_
          rintro e w1 ⟨⟨hE0, rfl⟩ | ⟨hE0, rfl⟩, hk1⟩
          · clear a0 a1 d0 d1
            go_wp2_with fail
            go_roundw
            case rel => exact ⟨k + 1, by omega, by go_num, (hkw.trans hkB).trans hk1, by have h9 := HC1.out; rw [if_pos hE0] at h9; exact h9⟩
            case measure => simp [intOf]; omega
          · have h9 := HC1.out
            rw [if_neg hE0] at h9
            have hRE : R = E := by have h8 := HR.out; rw [← h9, if_neg hE0] at h8; exact h8.symm
            subst hRE
            exact ⟨rfl, .inr ⟨hE0, rfl⟩, hkA.trans ((hkw.trans hkB).trans hk1)⟩
        · have hA0 : A = 0 := by
            rw [← hC.out, List.drop_eq_nil_of_le (by omega)]
            rfl
          have hR2 := HR.out
          rw [hA0, if_pos rfl] at hR2
          have hcs2 := hide (hcs.out wr (hkA.trans hkw))
          clear hcs hC
          cases h1 : (n == [105, 109, 103])
          · rw [h1, Bool.false_and, if_neg (by simp)] at hR2
            subst hR2
            have p1 := (nameEq n _).trans h1
            go_wp2_with fail
            refine hcs2.out.mono ?_
            rintro e w2 ⟨rfl, hk2⟩
            have e0 := C0.out w2 (hkw.trans hk2)
            clear d0 d1
            go_wp2_with fail
            go_end0
            first | exact ⟨.inl ⟨trivial, rfl⟩, hkA.trans (hkw.trans hk2)⟩ | exact ⟨rfl, hkA.trans (hkw.trans hk2)⟩
          · have p1 := (nameEq n _).trans h1
            cases h2 : hasSrc l
            · rw [h1, h2] at hR2
              rw [h2] at hcs2
              have hR3 : R = 5 := hR2.symm
              subst hR3
              go_wp2_with fail
              refine hcs2.out.mono ?_
              rintro e w2 ⟨rfl, hk2⟩
              have e0 := C0.out w2 (hkw.trans hk2)
              clear d0 d1
              go_wp2_with fail
              refine (with_any 5 _).mono ?_
              rintro e w3 ⟨rfl, h9⟩
              subst h9
              exact ⟨rfl, .inr ⟨by decide, rfl⟩, hkA.trans (hkw.trans hk2)⟩
            · rw [h1, h2] at hR2
              rw [h2] at hcs2
              have hR3 : R = 0 := hR2.symm
              subst hR3
              go_wp2_with fail
              refine hcs2.out.mono ?_
              rintro e w2 ⟨rfl, hk2⟩
              have e0 := C0.out w2 (hkw.trans hk2)
              clear d0 d1
              go_wp2_with fail
              go_end0
              first | exact ⟨.inl ⟨trivial, rfl⟩, hkA.trans (hkw.trans hk2)⟩ | exact ⟨rfl, hkA.trans (hkw.trans hk2)⟩
  · rw [he, if_pos rfl] at hR
    subst hR
    go_enter Tryz.func89, Tryz.ntmps89
    go_wp2_with fail
    refine bodyPost_ret (v := .tuple #[]) (by simp [results, Tryz.results89]) rfl ?_
    exact ⟨.inl ⟨trivial, rfl⟩, by first | exact hkA | exact hW ▸ hkA⟩
end Go.Proofs.YtlcljanibjdejaaGreat
namespace Go.Proofs.YtlcljanibjdejaaGreat
/-- Nodes that were put, and text behind them. -/
structure Lst where
  all : List Nd
  text : List UInt8
def Lst.done (s : Lst) : List Nd := if s.text.isEmpty = true then s.all else s.all ++ [textN s.text]
def Lst.put (s : Lst) (n : Nd) : Lst := if n.name.isEmpty = true then ⟨s.all, s.text ++ n.text⟩ else ⟨s.done ++ [n], []⟩
/-- How many cells' worth was put. -/
def Lst.weight (s : Lst) : Nat := s.all.length + s.text.length
end Go.Proofs.YtlcljanibjdejaaGreat
namespace Go.Proofs.YtlcljanibjdejaaGreat
def cleanIn (base : List UInt8) : Lst → List Nd → Lst
  | s, [] => s
  | s, .mk n a t k :: r =>
    if n.isEmpty = true then cleanIn base (s.put (.mk n a t k)) r
    else if goneN n = true then cleanIn base s r
    else if allowedN n = false then cleanIn base (cleanIn base s k) r
    else if standE n (keptA base n a) = 0 then cleanIn base (s.put (.mk n (keptA base n a) [] (cleanIn base ⟨[], []⟩ k).done)) r
    else cleanIn base s r
def cleanL (base : List UInt8) (l : List Nd) : List Nd := (cleanIn base ⟨[], []⟩ l).done
theorem told_name (base : List UInt8) (a : Pair) : (toldA base a).1 = a.1 := by unfold toldA; split <;> rfl
/-- Names that are right stay so where some go. -/
theorem chkA_less (f : Pair → Pair) (p : Pair → Bool) (hf : ∀ a, (f a).1 = a.1) : ∀ (l : List Pair) (m m' : List (List UInt8)), chkA l m = 0 → (∀ x, x ∈ m' → x ∈ m) → chkA ((l.map f).filter p) m' = 0
  | [], _, _, _, _ => rfl
  | a :: r, m, m', h, hm => by
    rw [chkA] at h
    by_cases h1 : isNameL a.1 = false
    · rw [if_pos h1] at h; simp at h
    · rw [if_neg h1] at h
      by_cases h2 : a.1 ∈ m
      · rw [if_pos h2] at h; simp at h
      · rw [if_neg h2] at h
        rw [List.map_cons]
        by_cases hp : p (f a) = true
        · rw [List.filter_cons_of_pos hp, chkA, hf, if_neg h1, if_neg (fun hx => h2 (hm _ hx))]
          exact chkA_less f p hf r _ _ h (fun x hx => by
            rcases List.mem_append.1 hx with hx | hx
            · exact List.mem_append_left _ (hm x hx)
            · exact List.mem_append_right _ hx)
        · rw [List.filter_cons_of_neg hp]
          exact chkA_less f p hf r _ _ h (fun x hx => List.mem_append_left _ (hm x hx))
theorem chkA_kept (base el : List UInt8) (l : List Pair) (h : chkA l [] = 0) : chkA (keptA base el l) [] = 0 := chkA_less (toldA base) _ (told_name base) l [] [] h (fun _ hx => hx)
/-- What is not allowed hides nothing, and is not looked for. -/
theorem opens_filter (is hides : List UInt8 → Bool) (h1 : ∀ x, is x = true → allowedN x = true) (h2 : ∀ x, hides x = true → allowedN x = true) (ns : List (List UInt8)) : opens is hides (ns.filter allowedN) = opens is hides ns := by
  have H : ∀ l : List (List UInt8), opens is hides (l.reverse.filter allowedN) = opens is hides l.reverse := by
    intro l
    induction l with
    | nil => rfl
    | cons x l ih =>
      rw [List.reverse_cons, List.filter_append, opens_snoc]
      by_cases hx : allowedN x = true
      · rw [List.filter_cons_of_pos hx, List.filter_nil, opens_snoc, ih]
      · rw [List.filter_cons_of_neg hx, List.filter_nil, List.append_nil, ih, if_neg (fun h => hx (h1 x h)), if_neg (fun h => hx (h2 x h))]
  have := H ns.reverse
  rwa [List.reverse_reverse] at this
theorem innerL_le' (is hides : List UInt8 → Bool) (ns : List (List UInt8)) : innerL is hides ns ≤ ns.length := innerTo_le _ _ _ _ (Nat.le_refl _)
theorem inner_filter (is hides : List UInt8 → Bool) (h1 : ∀ x, is x = true → allowedN x = true) (h2 : ∀ x, hides x = true → allowedN x = true) (ns : List (List UInt8)) (h : innerL is hides ns = ns.length) : innerL is hides (ns.filter allowedN) = (ns.filter allowedN).length := by
  have h3 := opens_filter is hides h1 h2 ns
  have h4 : opens is hides ns = false := by unfold opens; rw [h]; simp
  rw [h4] at h3
  unfold opens at h3
  have := innerL_le' is hides (ns.filter allowedN)
  simp at h3
  omega
theorem list_allowed : ∀ x, listN x = true → allowedN x = true := by
  intro x h
  simp only [listN, Bool.or_eq_true, beq_iff_eq] at h
  rcases h with rfl | rfl <;> decide
theorem wall_allowed : ∀ x, wallN x = true → allowedN x = true := by
  intro x h
  unfold wallN at h
  simp only [Bool.or_eq_true, beq_iff_eq] at h
  rcases h with (h | rfl) | rfl
  · exact list_allowed x h
  · decide
  · decide
theorem closed_filter (ns : List (List UInt8)) (n : List UInt8) (h : ns.length ≤ closedL ns n) : (ns.filter allowedN).length ≤ closedL (ns.filter allowedN) n := by
  have hp : ∀ x : List UInt8, (x == [112]) = true → allowedN x = true := fun x hx => by simp only [beq_iff_eq] at hx; subst hx; decide
  have hli : ∀ x : List UInt8, (x == [108, 105]) = true → allowedN x = true := fun x hx => by simp only [beq_iff_eq] at hx; subst hx; decide
  unfold closedL at h ⊢
  by_cases h1 : n = [108, 105]
  · subst h1
    have hb : blockN [108, 105] = true := by decide
    rw [if_pos rfl, if_pos hb] at h ⊢
    have a1 := innerL_le' (· == [112]) wallN ns
    have a2 := innerL_le' (· == [108, 105]) listN (ns.take (innerL (· == [112]) wallN ns))
    rw [List.length_take] at a2
    have a3 : innerL (· == [112]) wallN ns = ns.length := by omega
    rw [a3, List.take_length] at h
    have a4 : innerL (· == [108, 105]) listN ns = ns.length := Nat.le_antisymm (innerL_le' _ _ _) h
    rw [inner_filter _ _ hp wall_allowed ns a3, List.take_length, inner_filter _ _ hli list_allowed ns a4]
    exact Nat.le_refl _
  · rw [if_neg h1] at h ⊢
    by_cases h2 : blockN n = true
    · rw [if_pos h2] at h ⊢
      have a3 : innerL (· == [112]) wallN ns = ns.length := Nat.le_antisymm (innerL_le' _ _ _) h
      rw [inner_filter _ _ hp wall_allowed ns a3]
      exact Nat.le_refl _
    · rw [if_neg h2]
      exact Nat.le_refl _
/-- What was put is right. -/
def LstOk (ar : List (List UInt8)) (s : Lst) : Prop := Rt ar false s.all ∧ endsText s.all = false
theorem done_right {ar : List (List UInt8)} {s : Lst} (h : LstOk ar s) : Rt ar false s.done := by
  unfold Lst.done
  cases ht : s.text with
  | nil => exact h.1
  | cons c r => exact Rt_snoc_text _ _ _ _ h.1 (by simp) (fun _ => rfl) h.2
theorem put_rightT {ar : List (List UInt8)} {s : Lst} (h : LstOk ar s) (n : List UInt8) (a : List Pair) (t : List UInt8) (k : List Nd) (hn : n.isEmpty = true) : LstOk ar (s.put (.mk n a t k)) := by
  unfold Lst.put
  rw [if_pos (show (Nd.mk n a t k).name.isEmpty = true from hn)]
  exact h
theorem put_rightE {ar : List (List UInt8)} {s : Lst} (h : LstOk ar s) (n : Nd) (hn : ElOk ar n) : LstOk ar (s.put n) := by
  have hne := name_some hn.1
  unfold Lst.put
  rw [if_neg (by simpa using hne)]
  refine ⟨Rt_snoc_el _ _ _ _ (done_right h) hn, ?_⟩
  rw [endsText_snoc]
  simpa using hne
theorem clean_right (base : List UInt8) : ∀ (l : List Nd) (ar : List (List UInt8)) (prev : Bool) (s : Lst), Rt ar prev l → LstOk (ar.filter allowedN) s → LstOk (ar.filter allowedN) (cleanIn base s l)
  | [], ar, prev, s, _, hs => by rw [cleanIn]; exact hs
  | .mk n a t k :: r, ar, prev, s, h, hs => by
    rw [Rt] at h
    rw [cleanIn]
    by_cases hn : n = []
    · rw [if_pos hn] at h
      rw [if_pos (by simpa using hn)]
      exact clean_right base r ar true _ h.2.2.2.2 (put_rightT hs _ _ _ _ (by simpa using hn))
    · rw [if_neg hn] at h
      obtain ⟨h1, ht, h3, he, h5, h6, hk, hr⟩ := h
      rw [if_neg (by simpa using hn)]
      by_cases hg : goneN n = true
      · rw [if_pos hg]
        exact clean_right base r ar false _ hr hs
      · rw [if_neg hg]
        by_cases ha : allowedN n = false
        · rw [if_pos ha]
          refine clean_right base r ar false _ hr ?_
          have := clean_right base k (ar ++ [n]) false s hk (by rw [List.filter_append, List.filter_cons_of_neg (by simpa using ha), List.filter_nil, List.append_nil]; exact hs)
          rwa [List.filter_append, List.filter_cons_of_neg (by simpa using ha), List.filter_nil, List.append_nil] at this
        · rw [if_neg ha]
          by_cases hst : standE n (keptA base n a) = 0
          · rw [if_pos hst]
            refine clean_right base r ar false _ hr (put_rightE hs _ ?_)
            have ef : (ar ++ [n]).filter allowedN = ar.filter allowedN ++ [n] := by rw [List.filter_append, List.filter_cons_of_pos (by simpa using ha), List.filter_nil]
            have hks := clean_right base k (ar ++ [n]) false ⟨[], []⟩ hk ⟨Rt_nil _ _, rfl⟩
            rw [ef] at hks
            refine ⟨h1, rfl, chkA_kept base n a h3, fun hem => ?_, closed_filter ar n h5, Nat.lt_of_le_of_lt (List.length_filter_le _ _) h6, done_right hks⟩
            show (cleanIn base ⟨[], []⟩ k).done = []
            rw [he hem, cleanIn]
            rfl
          · rw [if_neg hst]
            exact clean_right base r ar false _ hr hs
theorem cleanL_right (base : List UInt8) (l : List Nd) (h : Rt [] false l) : Rt [] false (cleanL base l) := done_right (clean_right base l [] false _ h ⟨Rt_nil _ _, rfl⟩)
/-- How many nodes were put. -/
def Lst.size (s : Lst) : Nat := sizeNs s.all + if s.text.isEmpty = true then 0 else 1
theorem size_done (s : Lst) : sizeNs s.done = s.size := by
  unfold Lst.done Lst.size
  split
  · rfl
  · rw [sizeNs_append]; simp [sizeNs, textN]
theorem size_putT (s : Lst) (n : List UInt8) (a : List Pair) (t : List UInt8) (k : List Nd) (hn : n.isEmpty = true) : (s.put (.mk n a t k)).size ≤ s.size + 1 := by
  unfold Lst.put
  rw [if_pos (show (Nd.mk n a t k).name.isEmpty = true from hn)]
  unfold Lst.size
  simp only
  split <;> omega
theorem size_putE (s : Lst) (n : Nd) (hn : ¬ n.name.isEmpty = true) : (s.put n).size = s.size + 1 + sizeNs n.kids := by
  unfold Lst.put
  rw [if_neg hn]
  unfold Lst.size
  simp only
  rw [sizeNs_append, size_done, sizeNs_cons]
  simp [sizeNs, Lst.size]
  omega
theorem clean_size (base : List UInt8) : ∀ (l : List Nd) (s : Lst), (cleanIn base s l).size ≤ s.size + sizeNs l
  | [], s => by rw [cleanIn]; exact Nat.le_add_right _ _
  | .mk n a t k :: r, s => by
    rw [cleanIn, sizeNs]
    split
    · have := clean_size base r (s.put (.mk n a t k))
      have := size_putT s n a t k (by assumption)
      omega
    · split
      · have := clean_size base r s
        omega
      · split
        · have := clean_size base r (cleanIn base s k)
          have := clean_size base k s
          omega
        · split
          · have h1 := clean_size base r (s.put (.mk n (keptA base n a) [] (cleanIn base ⟨[], []⟩ k).done))
            have h2 := size_putE s (.mk n (keptA base n a) [] (cleanIn base ⟨[], []⟩ k).done) (by assumption)
            have h3 := clean_size base k ⟨[], []⟩
            have h4 := size_done (cleanIn base ⟨[], []⟩ k)
            have h5 : (⟨[], []⟩ : Lst).size = 0 := by simp [Lst.size, sizeNs]
            have h6 : sizeNs (Nd.mk n (keptA base n a) [] (cleanIn base ⟨[], []⟩ k).done).kids = (cleanIn base ⟨[], []⟩ k).size := h4
            omega
          · have := clean_size base r s
            omega
theorem cleanL_size (base : List UInt8) (l : List Nd) : sizeNs (cleanL base l) ≤ sizeNs l := by
  have := clean_size base l ⟨[], []⟩
  unfold cleanL
  rw [size_done]
  have h5 : (⟨[], []⟩ : Lst).size = 0 := by simp [Lst.size, sizeNs]
  omega
/-- All nodes can stand. -/
def AllSt : List Nd → Prop
  | [] => True
  | .mk n a _ k :: r => standE n a = 0 ∧ AllSt k ∧ AllSt r
end Go.Proofs.YtlcljanibjdejaaGreat
namespace Go.Proofs.YtlcljanibjdejaaGreat
open Go.RowKit Go.Maps
/-- What a list may still change. -/
def touchL (r : Nat) (allv textv : Value) : List Nat := r :: (textv.ownBlock.toList ++ allv.ownBlock.toList)
structure Ls (w : World) (B r : Nat) (allv textv : Value) (l : List Pn) (text : List UInt8) : Prop where
  blk : w.heap[r]? = some (.cells #[allv, textv] 199 (0, 0))
  all : w.ownsRow B 45 4 allv l.length (pnsCells l)
  txt : w.ownsRow B 5 1 textv text.length (Lib.byteCells text)
  done : ∀ q ∈ l, LiesP w (DoneB B (touchL r allv textv)) q.av q.nd.attrs.length 2 (pairCells q.nd.attrs) ∧ Ns w (DoneB B (touchL r allv textv)) q.kv q.nd.kids
  hr : B ≤ r
  pos : 0 < B
section
variable {w w' : World} {B r : Nat} {allv textv : Value} {l : List Pn} {text : List UInt8}
theorem mem_touchL {g : Nat} : g ∈ touchL r allv textv ↔ g = r ∨ textv.ownBlock = some g ∨ allv.ownBlock = some g := by simp [touchL]
theorem Ls.lt (h : Ls w B r allv textv l text) : r < w.heap.size := lt_of_block h.blk
theorem Ls.cell0 (h : Ls w B r allv textv l text) : w.cell? ⟨r, 0, none⟩ = some allv := cell_blk h.blk 0
theorem Ls.cell1 (h : Ls w B r allv textv l text) : w.cell? ⟨r, 1, none⟩ = some textv := cell_blk h.blk 1
theorem Ls.free (h : Ls w B r allv textv l text) (j : Nat) : w.frozen? ⟨r, j, none⟩ = false := free_blk h.blk j
theorem Ls.keepsNil (h : Ls w B r allv textv l text) (hk : Keeps [] w w') : Ls w' B r allv textv l text :=
  ⟨by rw [hk.block r h.lt List.not_mem_nil]; exact h.blk, hk.owns h.all (fun _ _ => List.not_mem_nil), hk.owns h.txt (fun _ _ => List.not_mem_nil), fun q hq => ⟨(h.done q hq).1.keeps hk (fun _ _ => List.not_mem_nil), (h.done q hq).2.keeps hk (fun _ _ => List.not_mem_nil)⟩, h.hr, h.pos⟩
theorem Ls.ge (h : Ls w B r allv textv l text) : ∀ g, g ∈ touchL r allv textv → B ≤ g ∧ g < w.heap.size := fun g hg => by
  rcases mem_touchL.1 hg with rfl | hg | hg
  · exact ⟨h.hr, h.lt⟩
  · exact h.txt.lt g hg
  · exact h.all.lt g hg
/-- The text is another. -/
theorem Ls.setText (h : Ls w B r allv textv l text) (hk : Keeps textv.ownBlock.toList w w') {tv : Value} {tx : List UInt8} (ho : w'.ownsRow B 5 1 tv tx.length (Lib.byteCells tx)) (hw : tv.ownBlock = textv.ownBlock ∨ ∃ n, tv.ownBlock = some n ∧ w.heap.size ≤ n) :
    Ls (w'.setCell ⟨r, 1, none⟩ tv) B r allv tv l tx ∧ Stp w (touchL r allv textv) (w'.setCell ⟨r, 1, none⟩ tv) (touchL r allv tv) := by
  have hrt : r ∉ textv.ownBlock.toList := fun hm => block_ne h.txt h.blk (by decide) (by simpa using hm)
  have hks : Keeps [r] w' (w'.setCell ⟨r, 1, none⟩ tv) := (Keeps.refl [r] w').setCell (.inl (by simp)) _
  have hblk' : w'.heap[r]? = some (.cells #[allv, textv] 199 (0, 0)) := by rw [hk.block r h.lt hrt]; exact h.blk
  have hkk : Keeps (r :: textv.ownBlock.toList) w (w'.setCell ⟨r, 1, none⟩ tv) := (hk.to (by simp; exact fun _ h => .inr h)).trans (hks.to (by simp))
  have hS : ∀ g, g ∈ r :: textv.ownBlock.toList → g ∈ touchL r allv textv := by
    intro g hg
    rw [mem_touchL]
    simp at hg
    rcases hg with hg | hg
    · exact .inl hg
    · exact .inr (.inl hg)
  have hT : ∀ g, g < w.heap.size → g ∈ touchL r allv tv → g ∈ touchL r allv textv := by
    intro g hg hm
    rw [mem_touchL] at hm ⊢
    rcases hm with hm | hm | hm
    · exact .inl hm
    · rcases hw with hw | ⟨n, hw, hn⟩
      · exact .inr (.inl (hw ▸ hm))
      · rw [hw] at hm; simp at hm; omega
    · exact .inr (.inr hm)
  refine ⟨⟨?_, ?_, hks.owns ho (fun g hg hm => by simp at hm; subst hm; exact block_ne ho hblk' (by decide) hg), fun q hq => ⟨(h.done q hq).1.move hkk hS hT, (h.done q hq).2.move hkk hS hT⟩, h.hr, h.pos⟩, hkk.to hS, fun g hm hg => hT g hg hm⟩
  · simp [World.setCell, Array.getElem?_modify, hblk']
  · refine hkk.owns h.all (fun g hg hm => ?_)
    simp at hm
    rcases hm with hm | hm
    · subst hm; exact block_ne h.all h.blk (by decide) hg
    · exact rows_apart h.all h.txt (by decide) hg hm
/-- One node more, behind the others. -/
theorem Ls.push {q : Pn} (h : Ls w B r allv textv l text) (hk : Keeps allv.ownBlock.toList w w') {av : Value} (ho : w'.ownsRow B 45 4 av (l.length + 1) (pnsCells l ++ pnCells q)) (hw : av.ownBlock = allv.ownBlock ∨ ∃ n, av.ownBlock = some n ∧ w.heap.size ≤ n)
    (hqa : LiesP w (DoneB B (touchL r allv textv)) q.av q.nd.attrs.length 2 (pairCells q.nd.attrs)) (hqk : Ns w (DoneB B (touchL r allv textv)) q.kv q.nd.kids) :
    Ls (w'.setCell ⟨r, 0, none⟩ av) B r av textv (l ++ [q]) text ∧ Stp w (touchL r allv textv) (w'.setCell ⟨r, 0, none⟩ av) (touchL r av textv) := by
  have hro : r ∉ allv.ownBlock.toList := fun hm => block_ne h.all h.blk (by decide) (by simpa using hm)
  have hks : Keeps [r] w' (w'.setCell ⟨r, 0, none⟩ av) := (Keeps.refl [r] w').setCell (.inl (by simp)) _
  have hblk' : w'.heap[r]? = some (.cells #[allv, textv] 199 (0, 0)) := by rw [hk.block r h.lt hro]; exact h.blk
  have hkk : Keeps (r :: allv.ownBlock.toList) w (w'.setCell ⟨r, 0, none⟩ av) := (hk.to (by simp; exact fun _ h => .inr h)).trans (hks.to (by simp))
  have hS : ∀ g, g ∈ r :: allv.ownBlock.toList → g ∈ touchL r allv textv := by
    intro g hg
    rw [mem_touchL]
    simp at hg
    rcases hg with hg | hg
    · exact .inl hg
    · exact .inr (.inr hg)
  have hT : ∀ g, g < w.heap.size → g ∈ touchL r av textv → g ∈ touchL r allv textv := by
    intro g hg hm
    rw [mem_touchL] at hm ⊢
    rcases hm with hm | hm | hm
    · exact .inl hm
    · exact .inr (.inl hm)
    · rcases hw with hw | ⟨n, hw, hn⟩
      · exact .inr (.inr (hw ▸ hm))
      · rw [hw] at hm; simp at hm; omega
  have ec : pnsCells (l ++ [q]) = pnsCells l ++ pnCells q := by simp [pnsCells]
  refine ⟨⟨?_, ?_, ?_, fun p hp => ?_, h.hr, h.pos⟩, hkk.to hS, fun g hm hg => hT g hg hm⟩
  · simp [World.setCell, Array.getElem?_modify, hblk']
  · rw [ec, List.length_append, List.length_singleton]
    exact hks.owns ho (fun g hg hm => by simp at hm; subst hm; exact block_ne ho hblk' (by decide) hg)
  · refine hkk.owns h.txt (fun g hg hm => ?_)
    simp at hm
    rcases hm with hm | hm
    · subst hm; exact block_ne h.txt h.blk (by decide) hg
    · exact rows_apart h.txt h.all (by decide) hg hm
  · rcases List.mem_append.1 hp with hp | hp
    · exact ⟨(h.done p hp).1.move hkk hS hT, (h.done p hp).2.move hkk hS hT⟩
    · simp at hp
      subst hp
      exact ⟨hqa.move hkk hS hT, hqk.move hkk hS hT⟩
end
/-- A list whose state is s, and what it may still change. -/
def LsT (w : World) (B r : Nat) (s : Lst) (T : List Nat) : Prop := ∃ allv textv l, T = touchL r allv textv ∧ l.map Pn.nd = s.all ∧ Ls w B r allv textv l s.text
theorem LsT.keepsNil {w w' : World} {B r : Nat} {s : Lst} {T : List Nat} (h : LsT w B r s T) (hk : Keeps [] w w') : LsT w' B r s T := by
  obtain ⟨a, t, l, e1, e2, h⟩ := h
  exact ⟨a, t, l, e1, e2, h.keepsNil hk⟩
theorem LsT.ge {w : World} {B r : Nat} {s : Lst} {T : List Nat} (h : LsT w B r s T) : (∀ g, g ∈ T → B ≤ g ∧ g < w.heap.size) ∧ B ≤ w.heap.size := by
  obtain ⟨a, t, l, rfl, e2, h⟩ := h
  exact ⟨h.ge, Nat.le_trans h.hr (Nat.le_of_lt h.lt)⟩
end Go.Proofs.YtlcljanibjdejaaGreat
namespace Go.Proofs.YtlcljanibjdejaaGreat
open Go.RowKit Go.Maps
/-- Four cells of a node. -/
def IsNd (w : World) (g : Nat) (n : List UInt8) (av : Value) (t : List UInt8) (kv : Value) : Prop :=
  w.cell? ⟨g, 0, none⟩ = some (.string ⟨n.toArray⟩) ∧ w.cell? ⟨g, 1, none⟩ = some av ∧ w.cell? ⟨g, 2, none⟩ = some (.string ⟨t.toArray⟩) ∧ w.cell? ⟨g, 3, none⟩ = some kv
theorem IsNd.keeps {w w' : World} {S : List Nat} {g : Nat} {n t : List UInt8} {av kv : Value} (h : IsNd w g n av t kv) (hk : Keeps S w w') (hg : g ∉ S) : IsNd w' g n av t kv :=
  ⟨cell_keepsS hk hg h.1, cell_keepsS hk hg h.2.1, cell_keepsS hk hg h.2.2.1, cell_keepsS hk hg h.2.2.2⟩
theorem IsNd.of {w : World} {g : Nat} {n t : List UInt8} {av kv : Value} {ty : TypeId} (h : w.heap[g]? = some (.cells #[.string ⟨n.toArray⟩, av, .string ⟨t.toArray⟩, kv] ty (0, 0))) : IsNd w g n av t kv :=
  ⟨cell_blk h 0, cell_blk h 1, cell_blk h 2, cell_blk h 3⟩
end Go.Proofs.YtlcljanibjdejaaGreat
namespace Go.Proofs.YtlcljanibjdejaaGreat
open Go.RowKit Go.Maps
/-- An element that is made: its name, and the attributes that were kept so far. -/
structure Kp (w : World) (B q : Nat) (n : List UInt8) (av : Value) (kl : List Pair) : Prop where
  blk : w.heap[q]? = some (.cells #[.string ⟨n.toArray⟩, av, .string ⟨#[]⟩, .slice none 0 0] 45 (0, 0))
  row : w.ownsRow B 52 2 av kl.length (pairCells kl)
theorem Kp.ne {w : World} {B q : Nat} {n : List UInt8} {av : Value} {kl : List Pair} (h : Kp w B q n av kl) : q ∉ av.ownBlock.toList := fun hm => block_ne h.row h.blk (by decide) (by simpa using hm)
theorem Kp.keeps {w w' : World} {B q : Nat} {n : List UInt8} {av : Value} {kl : List Pair} {S : List Nat} (h : Kp w B q n av kl) (hk : Keeps S w w') (hq : q ∉ S) (ha : ∀ g, av.ownBlock = some g → g ∉ S) : Kp w' B q n av kl :=
  ⟨by rw [hk.block q (lt_of_block h.blk) hq]; exact h.blk, hk.owns h.row ha⟩
theorem Kp.grow {w w' : World} {B q : Nat} {n : List UInt8} {av : Value} {kl : List Pair} (h : Kp w B q n av kl) (hk : Keeps av.ownBlock.toList w w') {av' : Value} {p : Pair} (ho : w'.ownsRow B 52 2 av' (kl.length + 1) (pairCells kl ++ [.string ⟨p.1.toArray⟩, .string ⟨p.2.toArray⟩])) :
    Kp (w'.setCell ⟨q, 1, none⟩ av') B q n av' (kl ++ [p]) := by
  have hb : w'.heap[q]? = some (.cells #[.string ⟨n.toArray⟩, av, .string ⟨#[]⟩, .slice none 0 0] 45 (0, 0)) := (hk.block q (lt_of_block h.blk) h.ne).trans h.blk
  refine ⟨?_, ?_⟩
  · simp [World.setCell, Array.getElem?_modify, hb]
  · have e : pairCells (kl ++ [p]) = pairCells kl ++ [.string ⟨p.1.toArray⟩, .string ⟨p.2.toArray⟩] := by simp [pairCells]
    rw [e, List.length_append, List.length_singleton]
    exact set_row ho (block_ne ho hb (by decide)) _
end Go.Proofs.YtlcljanibjdejaaGreat
namespace Go.Proofs.YtlcljanibjdejaaGreat
open Go.RowKit Go.Maps
theorem LsT.ns {w : World} {B r : Nat} {s : Lst} {T : List Nat} (h : LsT w B r s T) : ∃ allv textv, w.heap[r]? = some (.cells #[allv, textv] 199 (0, 0)) ∧ (∃ o n c, allv = .slice o n c) ∧ Ns w (fun g => B ≤ g) allv s.all := by
  obtain ⟨allv, textv, l, rfl, e2, h⟩ := h
  obtain ⟨o, c, ho⟩ := row_form h.all
  refine ⟨allv, textv, h.blk, ⟨o, _, c, ho⟩, .mk _ l _ e2 (LiesP.of_row h.all (fun g hg => (h.all.lt g hg).1)) (fun p hp => (h.done p hp).1.mono (fun _ _ hg => hg.1)) (fun p hp => (h.done p hp).2.mono (fun _ _ hg => hg.1))⟩
end Go.Proofs.YtlcljanibjdejaaGreat
namespace Go.Proofs.YtlcljanibjdejaaGreat
open Go.RowKit Go.Maps
/-- How much is put, at most. -/
def szNs : List Nd → Nat
  | [] => 0
  | .mk _ _ t k :: r => 1 + t.length + szNs k + szNs r
/-- Values of attributes are no longer than a text of Go may be. -/
def ValNs : List Nd → Prop
  | [] => True
  | .mk _ a _ k :: r => (a.length ≤ 1000000 ∧ ∀ p ∈ a, p.2.length ≤ maxLen) ∧ ValNs k ∧ ValNs r
theorem ValNs.at {n : Nd} : {ns : List Nd} → ValNs ns → n ∈ ns → n.attrs.length ≤ 1000000 ∧ (∀ p ∈ n.attrs, p.2.length ≤ maxLen) ∧ ValNs n.kids
  | .mk _ a _ k :: r, h, hm => by
    rw [ValNs] at h
    rcases List.mem_cons.1 hm with rfl | hm
    · exact ⟨h.1.1, h.1.2, h.2.1⟩
    · exact ValNs.at h.2.2 hm
end Go.Proofs.YtlcljanibjdejaaGreat

/- Strict trees: the bytes and the marks that are read. Strict trees: titles, what is passed over, values, attributes. Strict trees: what is passed over, values, attributes. Links as functions: what a link is split to and joined of ('splitL', 'joinL'), a path without its dots ('dotsL'), a link in the light of a base ('resL'), and what may be followed ('safeL'). A scheme at the head of a text, and what stands up to one of some bytes. Split: split. Join: joined. The last / of a path, and its first part. A path without its dots. A link in the light of a base: resolved. Safe: bare. nodes.Walk, fits, CheckText, checkNode, nodes.Check, tree.Check. fits, CheckText, checkNode. tags, tokenBegun. checkNode, nodes.Check, tree.Check. nodes.Check, tree.Check. -/
import Derived.Test.YtlcljanibjdejaaGreatXb06
import Derived.RegionDies
import Derived.Shelf.Strings.OnBuilder
import Derived.Shelf.Small.Strs
import Derived.Shelf.Strings.LastIndex
import Derived.Deep.MidRow
import Derived.Lib.IndexLaws
namespace Go.Proofs.YtlcljanibjdejaaGreat
open Go.RowKit Go.Maps
theorem whiteX_eq (c : UInt8) : whiteX c = ((c.toNat : Int) == 9 || (c.toNat : Int) == 10 || (c.toNat : Int) == 13 || (c.toNat : Int) == 32) := by
  unfold whiteX
  rw [beq_at (d := 9) rfl, beq_at (d := 10) rfl, beq_at (d := 13) rfl, beq_at (d := 32) rfl]
  rfl
set_option maxHeartbeats 400000 in
theorem whiteX_any (c : UInt8) (w : World) : Calls Tryz.prog 300 #[.int .u8 c.toNat] w fun e w' => e = .returned (.bool (whiteX c)) ∧ w' = w := by
  rw [whiteX_eq]
  go_enter Tryz.func300, Tryz.ntmps300
  go_wp2
  all_goals go_ret
  all_goals exact ⟨ret_bool (by simp [*]), rfl⟩
set_option maxHeartbeats 400000 in
theorem begX_any (c : UInt8) (w : World) : Calls Tryz.prog 298 #[.int .u8 c.toNat] w fun e w' => e = .returned (.bool (begX c)) ∧ w' = w := by
  unfold begX
  rw [beq_at (c := c) (d := 95) rfl]
  have hw := hide (fun w => letter_any c w)
  generalize letterB c = b at *
  cases b
  all_goals
    go_enter Tryz.func298, Tryz.ntmps298
    go_wp2_with (go_at_call 224; refine (hw.out _).mono ?_; rintro e w' ⟨rfl, rfl⟩)
    all_goals go_ret
    all_goals exact ⟨ret_bool (by simp [*]), rfl⟩
set_option maxHeartbeats 400000 in
theorem inX_any (c : UInt8) (w : World) : Calls Tryz.prog 299 #[.int .u8 c.toNat] w fun e w' => e = .returned (.bool (inX c)) ∧ w' = w := by
  unfold inX
  rw [beq_at (c := c) (d := 45) rfl, beq_at (c := c) (d := 46) rfl, beq_at (c := c) (d := 58) rfl]
  have hw := hide (fun w => begX_any c w)
  have hd := hide (fun w => dig_any c w)
  generalize begX c = b at *
  generalize digB c = d at *
  cases b <;> cases d
  all_goals
    go_enter Tryz.func299, Tryz.ntmps299
    go_wp2_with (first | (go_at_call 298; refine (hw.out _).mono ?_; rintro e w' ⟨rfl, rfl⟩) | (go_at_call 285; refine (hd.out _).mono ?_; rintro e w' ⟨rfl, rfl⟩))
    all_goals go_ret
    all_goals exact ⟨ret_bool (by simp [*]), rfl⟩
set_option maxHeartbeats 400000 in
theorem noLtX_any (c : UInt8) (w : World) : Calls Tryz.prog 326 #[.int .u8 c.toNat] w fun e w' => e = .returned (.bool (noLt c)) ∧ w' = w := by
  go_enter Tryz.func326, Tryz.ntmps326
  go_wp2
  go_ret
  exact ⟨ret_bool (byte_bne c 60), rfl⟩
theorem enters299 : Enters 299 := enters_of Tryz.func299 (by kernel_rfl) (by kernel_rfl)
theorem enters300 : Enters 300 := enters_of Tryz.func300 (by kernel_rfl) (by kernel_rfl)
theorem enters326 : Enters 326 := enters_of Tryz.func326 (by kernel_rfl) (by kernel_rfl)
/-- The text s lies in block b, and what is left of it is l. -/
def Tx (w : World) (b : Nat) (s : ByteArray) (l : List UInt8) : Prop := ∃ k, k ≤ s.size ∧ s.data.toList.drop k = l ∧ IsText w b s k
theorem Tx.keeps {S : List Nat} {w w' : World} {b : Nat} {s : ByteArray} {l : List UInt8} (h : Tx w b s l) (hk : Keeps S w w') (hb : b ∉ S) : Tx w' b s l := by
  obtain ⟨k, h1, h2, h3⟩ := h
  exact ⟨k, h1, h2, h3.keeps hk hb⟩
theorem Tx.len {w : World} {b : Nat} {s : ByteArray} {l : List UInt8} (h : Tx w b s l) : l.length ≤ s.size := by
  obtain ⟨k, h1, rfl, h3⟩ := h
  simp
theorem Tx.lt {w : World} {b : Nat} {s : ByteArray} {l : List UInt8} (h : Tx w b s l) : b < w.heap.size := by
  obtain ⟨k, h1, rfl, h3⟩ := h
  exact h3.lt
theorem drop_while_eq (f : UInt8 → Bool) (l : List UInt8) : l.drop (l.takeWhile f).length = l.dropWhile f := by
  have h1 : l.take (l.takeWhile f).length = l.takeWhile f := (List.prefix_iff_eq_take.1 (List.takeWhile_prefix _)).symm
  have e := List.take_append_drop (l.takeWhile f).length l
  rw [h1] at e
  have e2 := List.takeWhile_append_dropWhile (p := f) (l := l)
  exact List.append_cancel_left (e.trans e2.symm)
/-- Pass, for a function without what it captures. -/
theorem txPass (K : Nat) (f : UInt8 → Bool) (hK : Enters K) (hf : ∀ (c : UInt8) (w : World), Calls Tryz.prog K #[.int .u8 c.toNat] w fun e w' => e = .returned (.bool (f c)) ∧ w' = w)
    (b : Nat) (s : ByteArray) (l : List UInt8) (w : World) (hs : s.size ≤ 3000) (h : Tx w b s l) :
    Calls Tryz.prog 158 #[.pointer (some ⟨b, 0, none⟩), .func (.func K) #[] #[]] w fun e w' => e = .returned (.string ⟨(l.takeWhile f).toArray⟩) ∧ Tx w' b s (l.dropWhile f) ∧ Keeps [b] w w' := by
  obtain ⟨k, h1, rfl, h3⟩ := h
  refine (pass_of K f hK hf b s k w hs h3 h1).mono ?_
  rintro e w' ⟨rfl, hT, hk⟩
  refine ⟨rfl, ⟨_, takeWhile_le f s k h1, ?_, hT⟩, hk⟩
  rw [← List.drop_drop, drop_while_eq]
theorem txPassC (K : Nat) (caps : Array Value) (f : UInt8 → Bool) (hK : Enters K) (b : Nat) (s : ByteArray) (l : List UInt8) (w : World) (hs : s.size ≤ 3000) (h : Tx w b s l)
    (hf : ∀ (c : UInt8) (w1 : World), Keeps [b] w w1 → Calls Tryz.prog K (#[.int .u8 c.toNat] ++ caps) w1 fun e w' => e = .returned (.bool (f c)) ∧ ∃ n, w' = w1.drewN n) :
    Calls Tryz.prog 158 #[.pointer (some ⟨b, 0, none⟩), .func (.func K) #[] caps] w fun e w' => e = .returned (.string ⟨(l.takeWhile f).toArray⟩) ∧ Tx w' b s (l.dropWhile f) ∧ Keeps [b] w w' := by
  obtain ⟨k, h1, rfl, h3⟩ := h
  refine (pass_any K caps f b s k w hs h3 h1 hK hf).mono ?_
  rintro e w' ⟨rfl, hT, hk⟩
  have e1 : k + passLen f (s.data.toList.drop k) = k + ((s.data.toList.drop k).takeWhile f).length := rfl
  rw [pass_str]
  refine ⟨rfl, ⟨_, takeWhile_le f s k h1, ?_, hT⟩, hk⟩
  rw [← List.drop_drop, drop_while_eq]
theorem txBegins (b : Nat) (s : ByteArray) (l : List UInt8) (p : List UInt8) (w : World) (h : Tx w b s l) :
    Calls Tryz.prog 155 #[.pointer (some ⟨b, 0, none⟩), .string ⟨p.toArray⟩] w fun e w' => e = .returned (.bool (p.isPrefixOf l)) ∧ ∃ n, w' = w.drewN n := by
  obtain ⟨k, h1, rfl, h3⟩ := h
  exact begins_any b s k ⟨p.toArray⟩ w h3 h1
theorem txDone (b : Nat) (s : ByteArray) (l : List UInt8) (w : World) (h : Tx w b s l) :
    Calls Tryz.prog 77 #[.pointer (some ⟨b, 0, none⟩)] w fun e w' => e = .returned (.bool l.isEmpty) ∧ ∃ n, w' = w.drewN n := by
  obtain ⟨k, h1, rfl, h3⟩ := h
  refine (done_any b s k w h3).mono ?_
  rintro e w' ⟨rfl, hw⟩
  refine ⟨ret_bool ?_, hw⟩
  rw [Bool.eq_iff_iff]
  simp
set_option maxHeartbeats 400000 in
theorem passedK (b : Nat) (s : ByteArray) (k : Nat) (p : List UInt8) (w : World) (hs : s.size ≤ 3000) (hT : IsText w b s k) (hk : k ≤ s.size) :
    Calls Tryz.prog 258 #[.pointer (some ⟨b, 0, none⟩), .string ⟨p.toArray⟩] w fun e w' => e = .returned (.bool (p.isPrefixOf (s.data.toList.drop k))) ∧ IsText w' b s (if p.isPrefixOf (s.data.toList.drop k) = true then k + p.length else k) ∧ Keeps [b] w w' := by
  have c1 : ∀ n, (w.drewN n).cell? ⟨b, 1, none⟩ = some (.int .i64 k) := fun _ => hT.cell1
  have f1 : ∀ n, (w.drewN n).frozen? ⟨b, 1, none⟩ = false := fun _ => hT.free1
  have hb := hide (fun w1 (h : IsText w1 b s k) => begins_any b s k ⟨p.toArray⟩ w1 h hk)
  have hst : stAt s k p = p.isPrefixOf (s.data.toList.drop k) := rfl
  have hlen : p.isPrefixOf (s.data.toList.drop k) = true → k + p.length ≤ s.size := fun h => by
    have := (List.isPrefixOf_iff_prefix.1 h).length_le
    rw [List.length_drop, len_size] at this
    omega
  rw [hst] at hb
  have hsz := str_size p
  generalize p.isPrefixOf (s.data.toList.drop k) = r at *
  cases r
  · clear hlen
    go_enter Tryz.func258, Tryz.ntmps258
    go_wp2_with (go_at_call 155; refine (hb.out _ hT).mono ?_; rintro e w' ⟨rfl, n, rfl⟩)
    go_ret
    exact ⟨rfl, hT, (Keeps.refl _ _).drewN _⟩
  · have hle := hlen rfl
    clear hlen
    go_enter Tryz.func258, Tryz.ntmps258
    go_wp2_with (go_at_call 155; refine (hb.out _ hT).mono ?_; rintro e w' ⟨rfl, n, rfl⟩)
    go_ret
    exact ⟨rfl, hT.set (k + p.length), ((Keeps.refl _ _).drewN _).setCell (by simp) _⟩
theorem txPassed (b : Nat) (s : ByteArray) (l p : List UInt8) (w : World) (hs : s.size ≤ 3000) (h : Tx w b s l) :
    Calls Tryz.prog 258 #[.pointer (some ⟨b, 0, none⟩), .string ⟨p.toArray⟩] w fun e w' => e = .returned (.bool (p.isPrefixOf l)) ∧ Tx w' b s (if p.isPrefixOf l = true then l.drop p.length else l) ∧ Keeps [b] w w' := by
  obtain ⟨k, h1, rfl, h3⟩ := h
  refine (passedK b s k p w hs h3 h1).mono ?_
  rintro e w' ⟨rfl, hT, hk⟩
  refine ⟨rfl, ?_, hk⟩
  split
  · rename_i hp
    rw [if_pos hp] at hT
    refine ⟨k + p.length, ?_, by rw [List.drop_drop], hT⟩
    have := (List.isPrefixOf_iff_prefix.1 hp).length_le
    rw [List.length_drop, len_size] at this
    omega
  · rename_i hp
    rw [if_neg hp] at hT
    exact ⟨k, h1, rfl, hT⟩
/-- A reader in memory. -/
structure Xr (w : World) (r b : Nat) (s : ByteArray) (l : List UInt8) : Prop where
  rd : w.heap[r]? = some (.cells #[.pointer (some ⟨b, 0, none⟩)] 138 (0, 0))
  tx : Tx w b s l
theorem Xr.ne {w : World} {r b : Nat} {s : ByteArray} {l : List UInt8} (h : Xr w r b s l) : r ≠ b := by
  rintro rfl
  obtain ⟨k, _, _, h3⟩ := h.tx
  have h1 := h.rd
  unfold IsText at h3
  rw [h3] at h1
  simp at h1
theorem Xr.lt {w : World} {r b : Nat} {s : ByteArray} {l : List UInt8} (h : Xr w r b s l) : r < w.heap.size := lt_of_block h.rd
theorem Xr.cell {w : World} {r b : Nat} {s : ByteArray} {l : List UInt8} (h : Xr w r b s l) : w.cell? ⟨r, 0, none⟩ = some (.pointer (some ⟨b, 0, none⟩)) := cell_blk h.rd 0
theorem Xr.keeps {S : List Nat} {w w' : World} {r b : Nat} {s : ByteArray} {l : List UInt8} (h : Xr w r b s l) (hk : Keeps S w w') (hr : r ∉ S) (hb : b ∉ S) : Xr w' r b s l :=
  ⟨(hk.block r h.lt hr).trans h.rd, h.tx.keeps hk hb⟩
theorem Xr.keeps0 {w w' : World} {r b : Nat} {s : ByteArray} {l : List UInt8} (h : Xr w r b s l) (hk : Keeps [] w w') : Xr w' r b s l := h.keeps hk List.not_mem_nil List.not_mem_nil
/-- The text was read on. -/
theorem Xr.on {w w' : World} {r b : Nat} {s : ByteArray} {l l' : List UInt8} (h : Xr w r b s l) (hk : Keeps [b] w w') (hT : Tx w' b s l') : Xr w' r b s l' :=
  ⟨(hk.block r h.lt (by simpa using h.ne)).trans h.rd, hT⟩
theorem headX_take (f : UInt8 → Bool) (l : List UInt8) : headX f l = !(l.takeWhile f).isEmpty := by
  cases l with
  | nil => rfl
  | cons c l => cases h : f c <;> simp [headX, h]
set_option maxHeartbeats 1000000 in
theorem white253 (r b : Nat) (s : ByteArray) (l : List UInt8) (w : World) (hs : s.size ≤ 3000) (h : Xr w r b s l) :
    Calls Tryz.prog 253 #[.pointer (some ⟨r, 0, none⟩)] w fun e w' => e = .returned (.bool (headX whiteX l)) ∧ Xr w' r b s (l.dropWhile whiteX) ∧ Keeps [b] w w' := by
  have c0 := h.cell
  have hp := hide (txPass 300 whiteX enters300 whiteX_any b s l w hs h.tx)
  rw [headX_take]
  have HH := hide h
  generalize l.takeWhile whiteX = L at *
  cases L with
  | nil =>
    go_enter Tryz.func253, Tryz.ntmps253
    go_wp2_with fail
    refine hp.out.mono ?_
    rintro e w1 ⟨rfl, hT, hk⟩
    go_wp2_with fail
    go_ret
    exact ⟨rfl, HH.out.on hk hT, hk⟩
  | cons x L =>
    go_enter Tryz.func253, Tryz.ntmps253
    go_wp2_with fail
    refine hp.out.mono ?_
    rintro e w1 ⟨rfl, hT, hk⟩
    go_wp2_with fail
    go_ret
    exact ⟨ret_bool (by simp), HH.out.on hk hT, hk⟩
/-- What comes of reading on, or of giving up. -/
def Gives {α : Type} (x : Except Int α) (P : α → Ending → World → Prop) (e : Ending) (w' : World) : Prop := (∃ a, x = .ok a ∧ P a e w') ∨ (∃ k, x = .error k ∧ e = .panicked (stopped k))
theorem Gives.ok {α : Type} {a : α} {P : α → Ending → World → Prop} {e : Ending} {w' : World} (h : P a e w') : Gives (.ok a) P e w' := .inl ⟨a, rfl, h⟩
theorem Gives.no {α : Type} {k : Int} {P : α → Ending → World → Prop} {w' : World} : Gives (.error k : Except Int α) P (.panicked (stopped k)) w' := .inr ⟨k, rfl, rfl⟩
set_option maxHeartbeats 1000000 in
theorem must255 (r b : Nat) (s : ByteArray) (l m : List UInt8) (w : World) (hs : s.size ≤ 3000) (h : Xr w r b s l) :
    Calls Tryz.prog 255 #[.pointer (some ⟨r, 0, none⟩), .string ⟨m.toArray⟩] w fun e w' => Gives (mustX m l) (fun l' e w' => e = .returned (.tuple #[]) ∧ Xr w' r b s l') e w' ∧ Keeps [b] w w' := by
  have c0 := h.cell
  have hp := hide (txPassed b s l m w hs h.tx)
  have HH := hide h
  unfold mustX
  generalize hq : m.isPrefixOf l = q at *
  clear h hq
  cases q with
  | true =>
    simp only [if_true] at hp ⊢
    go_enter Tryz.func255, Tryz.ntmps255
    go_wp2_with fail
    refine hp.out.mono ?_
    rintro e w1 ⟨rfl, hT, hk⟩
    go_wp2_with fail
    go_end0
    exact ⟨.ok ⟨rfl, HH.out.on hk hT⟩, hk⟩
  | false =>
    simp only [Bool.false_eq_true, if_false] at hp ⊢
    go_enter Tryz.func255, Tryz.ntmps255
    go_wp2_with fail
    refine hp.out.mono ?_
    rintro e w1 ⟨rfl, hT, hk⟩
    go_wp2_with fail
    refine (with_any _ _).mono ?_
    rintro e w2 ⟨rfl, rfl⟩
    go_wp2_with fail
    exact ⟨rfl, .no, hk⟩
end Go.Proofs.YtlcljanibjdejaaGreat
namespace Go.Proofs.YtlcljanibjdejaaGreat
open Go.RowKit Go.Maps
theorem titleB_eq (s : ByteArray) (h : 0 < s.size) : isTitleL s.data.toList = (decide (s.size ≤ 20) && begX s[0] && s.data.toList.all inX) := by
  have h2 : s.data.toList.length = s.size := len_size s
  have e0 : s.data.toList.getD 0 0 = s[0] := byteAt_eq s 0 h
  cases hq : s.data.toList with
  | nil => rw [hq] at h2; simp at h2; omega
  | cons c r =>
    rw [hq] at h2 e0
    simp at h2 e0
    unfold isTitleL
    rw [← e0, ← h2]
    simp only [List.all_cons]
    cases hb : begX c
    · simp
    · simp [inX, hb]
theorem takeWhile_eq_all (f : UInt8 → Bool) (l : List UInt8) : (l.takeWhile f == l) = l.all f := by
  induction l with
  | nil => rfl
  | cons c l ih =>
    cases h : f c
    · simp [h]
    · simp [h, ih]
set_option maxHeartbeats 2000000 in
theorem isTitle_any (s : ByteArray) (w : World) (hs : s.size ≤ maxLen) :
    Calls Tryz.prog 252 #[.string s] w fun e w' => e = .returned (.bool (isTitleL s.data.toList)) ∧ Keeps [] w w' := by
  unfold maxLen at hs
  by_cases h1 : 0 < s.size
  · have hne : s.toList.isEmpty = false := by
      rw [ByteArray.toList_eq]
      have := len_size s
      cases hq : s.data.toList with
      | nil => rw [hq] at this; simp at this; omega
      | cons a b => rfl
    rw [titleB_eq s h1]
    by_cases h2 : s.size ≤ 20
    · have hd : decide ((20 : Int) < (s.size : Int)) = false := by simp; omega
      have hb := hide (fun w => begX_any s[0] w)
      rw [decide_eq_true h2]
      cases h3 : begX s[0]
      · rw [h3] at hb
        simp only [Bool.and_false, Bool.false_and]
        clear h3
        go_enter Tryz.func252, Tryz.ntmps252
        go_wp2_with (go_at_call 298; refine (hb.out _).mono ?_; rintro e w' ⟨rfl, rfl⟩)
        go_ret
        exact ⟨rfl, Keeps.refl _ _⟩
      · rw [h3] at hb
        simp only [Bool.and_true, Bool.true_and]
        have hT : Tx (w.alloc (.cells #[.string s, .int .i64 0] 181)) w.heap.size s s.data.toList := ⟨0, Nat.zero_le _, rfl, heap_alloc_new w _⟩
        have hp := hide (txPass 299 inX enters299 inX_any w.heap.size s s.data.toList _ (by omega) hT)
        have heq : ((⟨(s.data.toList.takeWhile inX).toArray⟩ : ByteArray).toList == s.toList) = s.data.toList.all inX := by
          rw [← takeWhile_eq_all, ByteArray.toList_eq, ByteArray.toList_eq]
        have HE := hide heq
        generalize s.data.toList.takeWhile inX = L at *
        clear h3 heq
        go_enter Tryz.func252, Tryz.ntmps252
        go_wp2_with (first | (go_at_call 298; refine (hb.out _).mono ?_; rintro e w9 ⟨rfl, h9⟩; obtain rfl : w = w9 := h9.symm) | (go_at_call 76; refine (new_any _ _).mono ?_; rintro e w9 ⟨rfl, rfl⟩))
        refine hp.out.mono ?_
        rintro e w1 ⟨rfl, _, hk⟩
        go_wp2_with fail
        all_goals go_ret
        all_goals refine ⟨ret_bool ?_, keeps_on ((Keeps.refl [] w).alloc _) hk (fun g hg hlt => by simp at hg; omega)⟩
        all_goals (rw [← HE.out]; try simp [*])
    · rw [decide_eq_false h2]
      simp only [Bool.false_and]
      have hd : decide ((20 : Int) < (s.size : Int)) = true := by simp; omega
      go_enter Tryz.func252, Tryz.ntmps252
      go_wp2_with fail
      go_ret
      exact ⟨rfl, Keeps.refl _ _⟩
  · have hne : s.toList.isEmpty = true := by
      rw [ByteArray.toList_eq]
      have := len_size s
      cases hq : s.data.toList with
      | nil => rfl
      | cons a b => rw [hq] at this; simp at this; omega
    have hl : isTitleL s.data.toList = false := by
      have := len_size s
      cases hq : s.data.toList with
      | nil => rfl
      | cons a b => rw [hq] at this; simp at this; omega
    rw [hl]
    go_enter Tryz.func252, Tryz.ntmps252
    go_wp2_with fail
    go_ret
    exact ⟨rfl, Keeps.refl _ _⟩
set_option maxHeartbeats 1000000 in
theorem title256 (r b : Nat) (s : ByteArray) (l : List UInt8) (w : World) (hs : s.size ≤ 3000) (h : Xr w r b s l) :
    Calls Tryz.prog 256 #[.pointer (some ⟨r, 0, none⟩)] w fun e w' => Gives (titleX l) (fun p e w' => e = .returned (.string ⟨p.1.toArray⟩) ∧ Xr w' r b s p.2) e w' ∧ Keeps [b] w w' := by
  have c0 := h.cell
  have hp := hide (txPass 299 inX enters299 inX_any b s l w hs h.tx)
  have HH := hide h
  unfold titleX
  have hlen : (l.takeWhile inX).length ≤ 3000 := Nat.le_trans (List.takeWhile_sublist _).length_le (Nat.le_trans h.tx.len hs)
  have ht := hide (fun w => isTitle_any ⟨(l.takeWhile inX).toArray⟩ w (by rw [str_size]; unfold maxLen; omega))
  rw [str_list] at ht
  clear h
  generalize l.takeWhile inX = T at *
  cases hq : isTitleL T
  · rw [hq] at ht
    simp only [Bool.false_eq_true, if_false]
    clear hq
    go_enter Tryz.func256, Tryz.ntmps256
    go_wp2_with fail
    refine hp.out.mono ?_
    rintro e w1 ⟨rfl, hT, hk⟩
    go_wp2_with fail
    refine (ht.out _).mono ?_
    rintro e w2 ⟨rfl, hk2⟩
    go_wp2_with fail
    refine (with_any _ _).mono ?_
    rintro e w3 ⟨rfl, rfl⟩
    go_wp2_with fail
    exact ⟨rfl, .no, hk.trans (hk2.to (by simp))⟩
  · rw [hq] at ht
    simp only [if_true]
    clear hq
    go_enter Tryz.func256, Tryz.ntmps256
    go_wp2_with fail
    refine hp.out.mono ?_
    rintro e w1 ⟨rfl, hT, hk⟩
    go_wp2_with fail
    refine (ht.out _).mono ?_
    rintro e w2 ⟨rfl, hk2⟩
    go_wp2_with fail
    go_ret
    exact ⟨.ok ⟨rfl, (HH.out.on hk hT).keeps0 hk2⟩, hk.trans (hk2.to (by simp))⟩
theorem enters156 : Enters 156 := enters_of Tryz.func156 (by kernel_rfl) (by kernel_rfl)
theorem enters324 : Enters 324 := enters_of Tryz.func324 (by kernel_rfl) (by kernel_rfl)
theorem txPassTo (b : Nat) (s : ByteArray) (l m : List UInt8) (w : World) (hs : s.size ≤ 3000) (hm : m.length ≤ 3000) (h : Tx w b s l) (hM : HasMax w) :
    Calls Tryz.prog 156 #[.pointer (some ⟨b, 0, none⟩), .string ⟨m.toArray⟩] w fun e w' =>
      ((∃ n, endOf m l = some n ∧ e = .returned (.string ⟨(l.take (n - m.length)).toArray⟩) ∧ Tx w' b s (l.drop n)) ∨ (endOf m l = none ∧ e = .panicked gave ∧ ∃ j, IsText w' b s j)) ∧ Keeps [b] w w' := by
  obtain ⟨k, h1, rfl, h3⟩ := h
  refine (passTo_any b s k ⟨m.toArray⟩ w hs (by rw [str_size]; exact hm) h3 h1 hM).mono ?_
  rintro e w' ⟨⟨n, he, rfl, hT⟩ | ⟨he, rfl, hT⟩, hk⟩
  · rw [str_list] at he
    have hl := endOf_len he
    rw [List.length_drop, len_size] at hl
    refine ⟨.inl ⟨n, he, ?_, k + n, by omega, by rw [List.drop_drop], hT⟩, hk⟩
    congr 2
    apply WideShapes.bytes_inj
    rw [Lib.extract_data, str_size, show k + n - m.length - k = n - m.length from by omega]
  · rw [str_list] at he
    exact ⟨.inr ⟨he, rfl, k, hT⟩, hk⟩
set_option maxRecDepth 4000 in
set_option maxHeartbeats 2000000 in
/-- passTo's closure. -/
theorem passTo1 (r b : Nat) (s : ByteArray) (l m : List UInt8) (p0 p1 p2 : Nat) (w : World) (hs : s.size ≤ 3000) (hm : m.length ≤ 3000) (h : Xr w r b s l) (hM : HasMax w)
    (h0 : w.heap[p0]? = some (.cells #[.pointer (some ⟨r, 0, none⟩)] 136 (0, 0))) (h1 : w.heap[p1]? = some (.cells #[.string ⟨m.toArray⟩] 9 (0, 0))) (h2 : w.heap[p2]? = some (.cells #[.string ⟨#[]⟩] 9 (0, 0))) (hp2 : p2 ≠ b) :
    Calls Tryz.prog 324 #[.pointer (some ⟨p0, 0, none⟩), .pointer (some ⟨p1, 0, none⟩), .pointer (some ⟨p2, 0, none⟩)] w fun e w' =>
      (e = .returned (.tuple #[]) ∧ (∃ n, endOf m l = some n ∧ w'.heap[p2]? = some (.cells #[.string ⟨(l.take (n - m.length)).toArray⟩] 9 (0, 0)) ∧ Tx w' b s (l.drop n)) ∨ e = .panicked gave ∧ endOf m l = none ∧ ∃ j, IsText w' b s j) ∧ Keeps [p2, b] w w' := by
  have c0 := h.cell
  have q0 : w.cell? ⟨p0, 0, none⟩ = some (.pointer (some ⟨r, 0, none⟩)) := cell_blk h0 0
  have q1 : w.cell? ⟨p1, 0, none⟩ = some (.string ⟨m.toArray⟩) := cell_blk h1 0
  have hp := hide (fun (W : World) (hT : Tx W b s l) (hM : HasMax W) => txPassTo b s l m W hs hm hT hM)
  have H2 := hide h2
  have HT := hide h.tx
  have HM := hide hM
  cases he : endOf m l with
  | none =>
    rw [he] at hp
    have hp' := hide (fun (W : World) (hT : Tx W b s l) (hM : HasMax W) => (hp.out W hT hM).mono (R' := fun e w' => e = .panicked gave ∧ (∃ j, IsText w' b s j) ∧ Keeps [b] W w') (fun e w' h => ⟨h.1.elim (fun ⟨n, h, _⟩ => by cases h) (fun h => h.2.1), h.1.elim (fun ⟨n, h, _⟩ => by cases h) (fun h => h.2.2), h.2⟩))
    clear hp he h hM h2
    go_enter Tryz.func324, Tryz.ntmps324
    go_region_dies
    all_goals refine (hp'.out _ (HT.out.keeps ((Keeps.refl [] w).drew) List.not_mem_nil) (HM.out.keeps ((Keeps.refl [] w).drew) List.not_mem_nil)).mono ?_
    all_goals rintro e w2 ⟨rfl, hj, hk2⟩
    all_goals first | exact ⟨rfl, .inr ⟨rfl, rfl, hj⟩, (keeps_drew hk2).to (by simp)⟩ | exact ⟨rfl, ⟨rfl, hj⟩, (keeps_drew hk2).to (by simp)⟩
  | some n =>
    rw [he] at hp
    have hp' := hide (fun (W : World) (hT : Tx W b s l) (hM : HasMax W) => (hp.out W hT hM).mono (R' := fun e w' => e = .returned (.string ⟨(l.take (n - m.length)).toArray⟩) ∧ Tx w' b s (l.drop n) ∧ Keeps [b] W w') (fun e w' h => ⟨h.1.elim (fun ⟨n', h, h2, _⟩ => by cases h; exact h2) (fun h => by cases h.1), h.1.elim (fun ⟨n', h, _, h3⟩ => by cases h; exact h3) (fun h => by cases h.1), h.2⟩))
    clear hp he h hM h2
    obtain ⟨A, hA⟩ : ∃ A, l.take (n - m.length) = A := ⟨_, rfl⟩
    rw [hA] at hp'
    have HA := hide hA
    clear hA
    go_enter Tryz.func324, Tryz.ntmps324
    go_region_law (refine step_call rfl 156 _ _ rfl enters156 #[.pointer (some ⟨b, 0, none⟩), .string ⟨m.toArray⟩] (by first | (simp [Act.eval]; done) | (simp [Act.eval, Act.put]; done) | kernel_rfl) (hp'.out _ (HT.out.keeps ((Keeps.refl [] w).drew) List.not_mem_nil) (HM.out.keeps ((Keeps.refl [] w).drew) List.not_mem_nil)) ?_; rintro e w2 ⟨rfl, hT2, hk2⟩; refine ⟨_, rfl, ?_⟩; have hk2' : Keeps [b] w w2 := keeps_drew hk2; have hb2 := (hk2'.block p2 (lt_of_block H2.out) (by simpa using hp2)).trans H2.out; have d2 : w2.cell? ⟨p2, 0, none⟩ = some (.string ⟨#[]⟩) := cell_blk hb2 0; have f2 : w2.frozen? ⟨p2, 0, none⟩ = false := free_blk hb2 0)
    all_goals go_wp2_with fail
    all_goals go_end0
    all_goals have hks : Keeps [p2] w2 (w2.setCell ⟨p2, 0, none⟩ (.string ⟨A.toArray⟩)) := (Keeps.refl [p2] w2).setCell (.inl (by simp)) _
    all_goals refine ⟨.inl ⟨rfl, n, rfl, ?_, hT2.keeps hks (by simpa using hp2.symm)⟩, keeps_on (hk2'.to (by simp)) hks (fun g hg _ => by simp at hg ⊢; exact .inl hg)⟩
    all_goals rw [HA.out]
    all_goals simp [World.setCell, Array.getElem?_modify, hb2]
end Go.Proofs.YtlcljanibjdejaaGreat
namespace Go.Proofs.YtlcljanibjdejaaGreat
open Go.RowKit Go.Maps
set_option maxRecDepth 4000 in
set_option maxHeartbeats 2000000 in
theorem passTo301 (r b : Nat) (s : ByteArray) (l m : List UInt8) (w : World) (hs : s.size ≤ 3000) (hm : m.length ≤ 3000) (h : Xr w r b s l) (hM : HasMax w) :
    Calls Tryz.prog 301 #[.pointer (some ⟨r, 0, none⟩), .string ⟨m.toArray⟩] w fun e w' => Gives (toX m l) (fun p e w' => e = .returned (.string ⟨p.1.toArray⟩) ∧ Xr w' r b s p.2) e w' ∧ Keeps [b] w w' := by
  obtain ⟨W, hW⟩ : ∃ W, ((w.alloc (.cells #[.pointer (some ⟨r, 0, none⟩)] 136)).alloc (.cells #[.string ⟨m.toArray⟩] 9)).alloc (.cells #[.string ⟨#[]⟩] 9) = W := ⟨_, rfl⟩
  have hkW : Keeps [] w W := by rw [← hW]; exact (((Keeps.refl [] w).alloc _).alloc _).alloc _
  have s1 : ∀ o, (w.alloc o).heap.size = w.heap.size + 1 := fun o => by simp
  have s2 : ∀ o o', ((w.alloc o).alloc o').heap.size = w.heap.size + 1 + 1 := fun o o' => by simp
  have hb0 : W.heap[w.heap.size]? = some (.cells #[.pointer (some ⟨r, 0, none⟩)] 136 (0, 0)) := by
    rw [← hW, Below.heap_alloc _ _ _ (by rw [s2]; omega), Below.heap_alloc _ _ _ (by rw [s1]; omega)]
    exact heap_alloc_new w _
  have hb1 : W.heap[w.heap.size + 1]? = some (.cells #[.string ⟨m.toArray⟩] 9 (0, 0)) := by
    rw [← hW, Below.heap_alloc _ _ _ (by rw [s2]; omega), ← s1]
    exact heap_alloc_new _ _
  have hb2 : W.heap[w.heap.size + 1 + 1]? = some (.cells #[.string ⟨#[]⟩] 9 (0, 0)) := by
    rw [← hW, ← s2]
    exact heap_alloc_new _ _
  have nn : ∀ g, g ∉ ([] : List Nat) := fun _ => List.not_mem_nil
  have hXW := h.keeps0 hkW
  have hbl : b < w.heap.size := h.tx.lt
  have c0 : W.cell? ⟨r, 0, none⟩ = some (.pointer (some ⟨b, 0, none⟩)) := hXW.cell
  have d0 : W.cell? ⟨w.heap.size, 0, none⟩ = some (.pointer (some ⟨r, 0, none⟩)) := cell_blk hb0 0
  have hmf : ∀ (fn : Fn) (first cap : Array Value) (w : World), (Instr.makeFunc fn first cap).run Tryz.prog w = .ok (.func fn first cap) w := fun _ _ _ _ => rfl
  have hWl : W.heap.size = w.heap.size + 3 := by rw [← hW]; simp
  obtain ⟨k, hk1, hk2, hT⟩ := hXW.tx
  have ht := hide (try_any 324 #[.pointer (some ⟨w.heap.size, 0, none⟩), .pointer (some ⟨w.heap.size + 1, 0, none⟩), .pointer (some ⟨w.heap.size + 1 + 1, 0, none⟩)]
    (fun w2 => ∃ n, endOf m l = some n ∧ w2.heap[w.heap.size + 1 + 1]? = some (.cells #[.string ⟨(l.take (n - m.length)).toArray⟩] 9 (0, 0)) ∧ Tx w2 b s (l.drop n)) (fun _ => endOf m l = none) [w.heap.size + 1 + 1, b] b s k W hT enters324 (by simp)
    (fun i hi => by simp at hi; omega) (fun _ _ h _ => h)
    (fun w1 hkw => (passTo1 r b s l m w.heap.size (w.heap.size + 1) (w.heap.size + 1 + 1) w1 hs hm (hXW.keeps0 hkw) (hM.keeps (hkW.trans hkw) (nn _)) ((hkw.block _ (lt_of_block hb0) (nn _)).trans hb0) ((hkw.block _ (lt_of_block hb1) (nn _)).trans hb1) ((hkw.block _ (lt_of_block hb2) (nn _)).trans hb2) (by omega)).mono
      (fun e w2 h9 => h9)))
  have HX := hide h
  have HW := hide hW
  have hkS : ∀ w2, Keeps [w.heap.size + 1 + 1, b] W w2 → Keeps [b] w w2 := fun w2 hk => keeps_on (hkW.to (by simp)) hk (fun g hg hlt => by simp at hg ⊢; omega)
  unfold toX
  clear hW h hXW hb0 hb1 hb2 hT hk1 hk2 s1 s2 hM hWl hkW
  cases he : endOf m l with
  | none =>
    rw [he] at ht
    have ht' := hide (ht.out.mono (R' := fun e w' => e = .returned (.bool false) ∧ Keeps [w.heap.size + 1 + 1, b] W w') (fun e w' h => ⟨h.1.elim (fun h => by obtain ⟨_, n, h2, _⟩ := h; cases h2) (fun h => h.1), h.2⟩))
    clear ht he
    go_enter Tryz.func301, Tryz.ntmps301
    go_upto_region 2 with fail
    rw [HW.out]
    go_wp2_with fail
    refine ht'.out.mono ?_
    rintro e w2 ⟨rfl, hk⟩
    go_wp2_with fail
    refine (with_any _ _).mono ?_
    rintro e w3 ⟨rfl, rfl⟩
    exact ⟨rfl, .no, hkS _ hk⟩
  | some n =>
    rw [he] at ht
    have ht' := hide (ht.out.mono (R' := fun e w' => e = .returned (.bool true) ∧ (w'.heap[w.heap.size + 1 + 1]? = some (.cells #[.string ⟨(l.take (n - m.length)).toArray⟩] 9 (0, 0)) ∧ Tx w' b s (l.drop n)) ∧ Keeps [w.heap.size + 1 + 1, b] W w') (fun e w' h => ⟨h.1.elim (fun h => h.1) (fun h => by cases h.2.1), h.1.elim (fun h => by obtain ⟨_, n', h2, h3⟩ := h; cases h2; exact h3) (fun h => by cases h.2.1), h.2⟩))
    clear ht he
    simp only
    obtain ⟨A, hA⟩ : ∃ A, l.take (n - m.length) = A := ⟨_, rfl⟩
    rw [hA] at ht' ⊢
    clear hA
    generalize l.drop n = L at *
    go_enter Tryz.func301, Tryz.ntmps301
    go_upto_region 2 with fail
    rw [HW.out]
    go_wp2_with fail
    refine ht'.out.mono ?_
    rintro e w2 ⟨rfl, ⟨hb2, hT⟩, hk⟩
    have d2 : w2.cell? ⟨w.heap.size + 1 + 1, 0, none⟩ = some (.string ⟨A.toArray⟩) := cell_blk hb2 0
    go_wp2_with fail
    go_ret
    exact ⟨.ok ⟨rfl, HX.out.on (hkS _ hk) hT⟩, hkS _ hk⟩
/-- What remark comes to. -/
def RemOut (r b : Nat) (s : ByteArray) (l : List UInt8) (e : Ending) (w' : World) : Prop :=
  match remX l with
  | none => e = .returned (.bool false) ∧ Xr w' r b s l
  | some x => Gives x (fun p e w' => e = .returned (.bool true) ∧ Xr w' r b s p.2) e w'
set_option maxHeartbeats 2000000 in
theorem remark254 (r b : Nat) (s : ByteArray) (l : List UInt8) (w : World) (hs : s.size ≤ 3000) (h : Xr w r b s l) (hM : HasMax w) (hb0 : b ≠ 0) :
    Calls Tryz.prog 254 #[.pointer (some ⟨r, 0, none⟩)] w fun e w' => RemOut r b s l e w' ∧ Keeps [b] w w' := by
  have c0 := h.cell
  have hp1 := hide (txPassed b s l [60, 33, 45, 45] w hs h.tx)
  have HH := hide h
  have HM := hide hM
  have hm0 : ∀ w1, Keeps [b] w w1 → HasMax w1 := fun w1 hk => hM.keeps hk (by simpa using hb0.symm)
  unfold RemOut remX
  clear h hM
  cases hq : ([60, 33, 45, 45] : List UInt8).isPrefixOf l
  · rw [hq] at hp1
    simp only [Bool.false_eq_true, if_false] at hp1 ⊢
    have hp2 := hide (fun w1 hT => txPassed b s l [60, 63] w1 hs hT)
    cases hq2 : ([60, 63] : List UInt8).isPrefixOf l
    · rw [hq2] at hp2
      simp only [Bool.false_eq_true, if_false] at hp2 ⊢
      clear hq hq2
      go_enter Tryz.func254, Tryz.ntmps254
      go_wp2_with fail
      refine hp1.out.mono ?_
      rintro e w1 ⟨rfl, hT1, hk1⟩
      have c1 := (HH.out.on hk1 hT1).cell
      go_wp2_with fail
      refine (hp2.out _ hT1).mono ?_
      rintro e w2 ⟨rfl, hT2, hk2⟩
      go_wp2_with fail
      go_ret
      exact ⟨⟨rfl, HH.out.on (hk1.trans hk2) hT2⟩, hk1.trans hk2⟩
    · rw [hq2] at hp2
      simp only [if_true] at hp2 ⊢
      have ht := hide (fun w1 (hX : Xr w1 r b s (l.drop 2)) hM => passTo301 r b s (l.drop 2) [63, 62] w1 hs (by simp) hX hM)
      have hlen : ([60, 63] : List UInt8).length = 2 := rfl
      rw [hlen] at hp2
      clear hq hq2 hlen
      go_enter Tryz.func254, Tryz.ntmps254
      go_wp2_with fail
      refine hp1.out.mono ?_
      rintro e w1 ⟨rfl, hT1, hk1⟩
      have c1 := (HH.out.on hk1 hT1).cell
      go_wp2_with fail
      refine (hp2.out _ hT1).mono ?_
      rintro e w2 ⟨rfl, hT2, hk2⟩
      have hX2 := hide (HH.out.on (hk1.trans hk2) hT2)
      go_wp2_with fail
      refine (ht.out _ hX2.out (hm0 _ (hk1.trans hk2))).mono ?_
      rintro e w3 ⟨hg, hk3⟩
      rcases hg with ⟨⟨t, l2⟩, hx, rfl, hX3⟩ | ⟨k, hx, rfl⟩
      · have HX := hide hx
        clear hx
        go_wp2_with fail
        go_ret
        rw [HX.out]
        exact ⟨.ok ⟨rfl, hX3⟩, (hk1.trans hk2).trans hk3⟩
      · exact ⟨rfl, .inr ⟨k, hx, rfl⟩, (hk1.trans hk2).trans hk3⟩
  · rw [hq] at hp1
    simp only [if_true] at hp1 ⊢
    have ht := hide (fun w1 (hX : Xr w1 r b s (l.drop 4)) hM => passTo301 r b s (l.drop 4) [45, 45, 62] w1 hs (by simp) hX hM)
    have hlen : ([60, 33, 45, 45] : List UInt8).length = 4 := rfl
    rw [hlen] at hp1
    clear hq hlen
    go_enter Tryz.func254, Tryz.ntmps254
    go_wp2_with fail
    refine hp1.out.mono ?_
    rintro e w1 ⟨rfl, hT1, hk1⟩
    have hX1 := hide (HH.out.on hk1 hT1)
    go_wp2_with fail
    refine (ht.out _ hX1.out (hm0 _ hk1)).mono ?_
    rintro e w3 ⟨hg, hk3⟩
    rcases hg with ⟨⟨t, l2⟩, hx, rfl, hX3⟩ | ⟨k, hx, rfl⟩
    · have HX := hide hx
      clear hx
      go_wp2_with fail
      go_ret
      rw [HX.out]
      exact ⟨.ok ⟨rfl, hX3⟩, hk1.trans hk3⟩
    · exact ⟨rfl, .inr ⟨k, hx, rfl⟩, hk1.trans hk3⟩
end Go.Proofs.YtlcljanibjdejaaGreat
namespace Go.Proofs.YtlcljanibjdejaaGreat
structure UrlT where
  scheme : List UInt8
  authority : List UInt8
  path : List UInt8
  query : List UInt8
  fragment : List UInt8
  hs : Bool
  ha : Bool
  hq : Bool
  hf : Bool
deriving DecidableEq
/-- A path without its last /, and what is behind it. -/
def cutLast (l : List UInt8) : List UInt8 := ((l.reverse.dropWhile (· != 47)).drop 1).reverse
/-- A path up to its last /, and that. -/
def upSl (l : List UInt8) : List UInt8 := (l.reverse.dropWhile (· != 47)).reverse
def noSl (c : UInt8) : Bool := c != 47
def firstL (l : List UInt8) : Nat := 1 + ((l.drop 1).takeWhile noSl).length
theorem dropWhile_stop (f : UInt8 → Bool) : ∀ (y : List UInt8) (c : UInt8) (r : List UInt8), (∀ d ∈ y, f d = true) → f c = false → (y ++ c :: r).dropWhile f = c :: r
  | [], c, r, _, h => by simp [h]
  | d :: y, c, r, hy, h => by
    rw [List.cons_append, List.dropWhile_cons, if_pos (hy d (by simp))]
    exact dropWhile_stop f y c r (fun e he => hy e (by simp [he])) h
theorem dropWhile_none (f : UInt8 → Bool) : ∀ (y : List UInt8), (∀ d ∈ y, f d = true) → y.dropWhile f = []
  | [], _ => rfl
  | d :: y, hy => by
    rw [List.dropWhile_cons, if_pos (hy d (by simp))]
    exact dropWhile_none f y (fun e he => hy e (by simp [he]))
theorem cutLast_at (x y : List UInt8) (hy : ∀ d ∈ y, d ≠ 47) : cutLast (x ++ 47 :: y) = x := by
  unfold cutLast
  have e : (x ++ 47 :: y).reverse = y.reverse ++ 47 :: x.reverse := by simp
  rw [e, dropWhile_stop _ _ _ _ (fun d hd => by simpa using hy d (by simpa using hd)) (by simp)]
  simp
theorem cutLast_none (x : List UInt8) (hx : ∀ d ∈ x, d ≠ 47) : cutLast x = [] := by
  unfold cutLast
  rw [dropWhile_none _ _ (fun d hd => by simpa using hx d (by simpa using hd))]
  rfl
theorem upSl_at (x y : List UInt8) (hy : ∀ d ∈ y, d ≠ 47) : upSl (x ++ 47 :: y) = x ++ [47] := by
  unfold upSl
  have e : (x ++ 47 :: y).reverse = y.reverse ++ 47 :: x.reverse := by simp
  rw [e, dropWhile_stop _ _ _ _ (fun d hd => by simpa using hy d (by simpa using hd)) (by simp)]
  simp
theorem upSl_none (x : List UInt8) (hx : ∀ d ∈ x, d ≠ 47) : upSl x = [] := by
  unfold upSl
  rw [dropWhile_none _ _ (fun d hd => by simpa using hx d (by simpa using hd))]
  rfl
/-- One step of a path's dots: what is left, and what has come. -/
def dotStep (i o : List UInt8) : List UInt8 × List UInt8 :=
  if [46, 46, 47].isPrefixOf i = true then (i.drop 3, o)
  else if [46, 47].isPrefixOf i = true then (i.drop 2, o)
  else if [47, 46, 47].isPrefixOf i = true then (i.drop 2, o)
  else if [47, 46, 46, 47].isPrefixOf i = true then (i.drop 3, cutLast o)
  else if i = [47, 46] then ([47], o)
  else if i = [47, 46, 46] then ([47], cutLast o)
  else if i = [46] ∨ i = [46, 46] then ([], o)
  else (i.drop (firstL i), o ++ i.take (firstL i))
def dotsF : Nat → List UInt8 → List UInt8 → List UInt8
  | 0, _, o => o
  | f + 1, i, o => if i = [] then o else dotsF f (dotStep i o).1 (dotStep i o).2
/-- What is left of a path and what has come, to its end. -/
def dotsR (i o : List UInt8) : List UInt8 := dotsF i.length i o
/-- A part of a path that is no dots. -/
def PartOk (x : List UInt8) : Prop := (∀ d ∈ x, d ≠ 47) ∧ x ≠ [46] ∧ x ≠ [46, 46]
/-- Parts, each with a / ahead. -/
inductive Tail : List UInt8 → Prop
  | nil : Tail []
  | cons (x r : List UInt8) : PartOk x → Tail r → Tail (47 :: x ++ r)
def CleanP (l : List UInt8) : Prop := ∃ x r, l = x ++ r ∧ PartOk x ∧ Tail r
theorem part_nil : PartOk [] := ⟨by simp, by simp, by simp⟩
/-- The last part with its /. -/
theorem Tail.last {r : List UInt8} (h : Tail r) : r = [] ∨ ∃ q x, r = q ++ 47 :: x ∧ Tail q ∧ PartOk x := by
  induction h with
  | nil => exact .inl rfl
  | cons y r hy hr ih =>
    right
    rcases ih with rfl | ⟨q, x, rfl, hq, hx⟩
    · exact ⟨[], y, by simp, .nil, hy⟩
    · exact ⟨47 :: y ++ q, x, by simp, .cons y q hy hq, hx⟩
theorem CleanP.cut {l : List UInt8} (h : CleanP l) : CleanP (cutLast l) := by
  obtain ⟨y, r, rfl, hy, hr⟩ := h
  rcases hr.last with rfl | ⟨q, x, rfl, hq, hx⟩
  · rw [List.append_nil, cutLast_none y hy.1]
    exact ⟨[], [], rfl, part_nil, .nil⟩
  · rw [← List.append_assoc, cutLast_at _ _ hx.1]
    exact ⟨y, q, rfl, hy, hq⟩
theorem CleanP.nil : CleanP [] := ⟨[], [], rfl, part_nil, .nil⟩
theorem Tail.head {r : List UInt8} (h : Tail r) : r = [] ∨ ∃ q, r = 47 :: q := by
  cases h with
  | nil => exact .inl rfl
  | cons x r _ _ => exact .inr ⟨x ++ r, by simp⟩
end Go.Proofs.YtlcljanibjdejaaGreat
namespace Go.Proofs.YtlcljanibjdejaaGreat
open Go.RowKit
/-- A cell that holds a text. -/
def IsStr (w : World) (p : Nat) (x : ByteArray) : Prop := w.heap[p]? = some (.cells #[.string x] 9 (0, 0))
theorem IsStr.lt {w : World} {p : Nat} {x : ByteArray} (h : IsStr w p x) : p < w.heap.size := lt_of_block h
theorem IsStr.keeps {S : List Nat} {w w' : World} {p : Nat} {x : ByteArray} (h : IsStr w p x) (hk : Keeps S w w') (hp : p ∉ S) : IsStr w' p x := by
  rw [IsStr, hk.block p h.lt hp]; exact h
theorem IsStr.cell {w : World} {p : Nat} {x : ByteArray} (h : IsStr w p x) : w.cell? ⟨p, 0, none⟩ = some (.string x) := cell_of_one h
/-- A link in memory. -/
def urlCells (u : UrlT) : Array Value := #[.string ⟨u.scheme.toArray⟩, .string ⟨u.authority.toArray⟩, .string ⟨u.path.toArray⟩, .string ⟨u.query.toArray⟩, .string ⟨u.fragment.toArray⟩, .bool u.hs, .bool u.ha, .bool u.hq, .bool u.hf]
def IsUrl (w : World) (q : Nat) (u : UrlT) : Prop := w.heap[q]? = some (.cells #[.string ⟨u.scheme.toArray⟩, .string ⟨u.authority.toArray⟩, .string ⟨u.path.toArray⟩, .string ⟨u.query.toArray⟩, .string ⟨u.fragment.toArray⟩, .bool u.hs, .bool u.ha, .bool u.hq, .bool u.hf] 99 (0, 0))
theorem IsUrl.lt {w : World} {q : Nat} {u : UrlT} (h : IsUrl w q u) : q < w.heap.size := lt_of_block h
theorem IsUrl.keeps {S : List Nat} {w w' : World} {q : Nat} {u : UrlT} (h : IsUrl w q u) (hk : Keeps S w w') (hq : q ∉ S) : IsUrl w' q u := by
  rw [IsUrl, hk.block q h.lt hq]; exact h
theorem IsUrl.free {w : World} {q : Nat} {u : UrlT} (h : IsUrl w q u) (j : Nat) : w.frozen? ⟨q, j, none⟩ = false := by
  simp [World.frozen?, IsUrl] at h ⊢; simp [h]
theorem IsUrl.cell {w : World} {q : Nat} {u : UrlT} (h : IsUrl w q u) (j : Nat) : w.cell? ⟨q, j, none⟩ = (urlCells u)[j]? := by
  simp [World.cell?, IsUrl, urlCells] at h ⊢; simp [h]
/-- A cell that holds the text that is read. -/
def IsPtr (w : World) (p b : Nat) : Prop := w.heap[p]? = some (.cells #[.pointer (some ⟨b, 0, none⟩)] 105 (0, 0))
theorem IsPtr.lt {w : World} {p b : Nat} (h : IsPtr w p b) : p < w.heap.size := lt_of_block h
theorem IsPtr.keeps {S : List Nat} {w w' : World} {p b : Nat} (h : IsPtr w p b) (hk : Keeps S w w') (hp : p ∉ S) : IsPtr w' p b := by
  rw [IsPtr, hk.block p h.lt hp]; exact h
theorem IsPtr.cell {w : World} {p b : Nat} (h : IsPtr w p b) : w.cell? ⟨p, 0, none⟩ = some (.pointer (some ⟨b, 0, none⟩)) := cell_of_one h
end Go.Proofs.YtlcljanibjdejaaGreat
namespace Go.Proofs.YtlcljanibjdejaaGreat
open Go.RowKit
def noUrl : UrlT := ⟨[], [], [], [], [], false, false, false, false⟩
theorem IsUrl.range {W : World} {q : Nat} {u : UrlT} (h : IsUrl W q u) : W.rangeAt q 0 (urlCells u).toList := fun j v hv => by
  rw [Nat.zero_add, h.cell j]
  simpa using hv
/-- While a link is split. -/
structure Sp (w : World) (r p q b : Nat) (s : ByteArray) (W : World) (k : Nat) (u : UrlT) : Prop where
  text : IsText W b s k
  ptr : IsPtr W p b
  url : IsUrl W q u
  res : IsUrl W r noUrl
  keeps : Keeps [] w W
  max : HasMax W
  rw : w.heap.size ≤ r
  bw : w.heap.size ≤ b
  qw : w.heap.size ≤ q
  ne1 : p ≠ b
  ne2 : p ≠ q
  ne3 : q ≠ b
  ne4 : r ≠ b
  ne5 : r ≠ q
  b0 : 0 < b
  q0 : 0 < q
theorem Sp.move {w : World} {r p q b : Nat} {s : ByteArray} {W : World} {k : Nat} {u : UrlT} (h : Sp w r p q b s W k u) {W' : World} {k' : Nat} (hT : IsText W' b s k') (hk : Keeps [b] W W') : Sp w r p q b s W' k' u :=
  ⟨hT, h.ptr.keeps hk (by simpa using h.ne1), h.url.keeps hk (by simpa using h.ne3), h.res.keeps hk (by simpa using h.ne4),
    (h.keeps.mono (T := [b]) (by simp)).trans hk |>.mono (fun i hi hlt => by have := h.bw; simp at hi; omega),
    h.max.keeps hk (by have := h.b0; simp; omega), h.rw, h.bw, h.qw, h.ne1, h.ne2, h.ne3, h.ne4, h.ne5, h.b0, h.q0⟩
theorem Sp.drew {w : World} {r p q b : Nat} {s : ByteArray} {W : World} {k : Nat} {u : UrlT} (h : Sp w r p q b s W k u) (n : Nat) : Sp w r p q b s (W.drewN n) k u :=
  ⟨h.text, h.ptr, h.url, h.res, h.keeps.drewN n, h.max, h.rw, h.bw, h.qw, h.ne1, h.ne2, h.ne3, h.ne4, h.ne5, h.b0, h.q0⟩
theorem Sp.put {w : World} {r p q b : Nat} {s : ByteArray} {W : World} {k : Nat} {u : UrlT} (h : Sp w r p q b s W k u) {j : Nat} {v : Value} {u' : UrlT} (hU : IsUrl (W.setCell ⟨q, j, none⟩ v) q u') : Sp w r p q b s (W.setCell ⟨q, j, none⟩ v) k u' := by
  have hk : Keeps [q] W (W.setCell ⟨q, j, none⟩ v) := (Keeps.refl [q] W).setCell (p := ⟨q, j, none⟩) (by simp) v
  exact ⟨h.text.keeps hk (by simpa using h.ne3.symm), h.ptr.keeps hk (by simpa using h.ne2), hU, h.res.keeps hk (by simpa using h.ne5),
    (h.keeps.mono (T := [q]) (by simp)).trans hk |>.mono (fun i hi hlt => by have := h.qw; simp at hi; omega),
    h.max.keeps hk (by have := h.q0; simp; omega), h.rw, h.bw, h.qw, h.ne1, h.ne2, h.ne3, h.ne4, h.ne5, h.b0, h.q0⟩
end Go.Proofs.YtlcljanibjdejaaGreat
namespace Go.Proofs.YtlcljanibjdejaaGreat
open Go.RowKit
theorem KeepsB.url {B b : Nat} {w w' : World} {q : Nat} {u : UrlT} (h : KeepsB B b w w') (hU : IsUrl w q u) (hq : q < B) (hb : q ≠ b) : IsUrl w' q u := by
  rw [IsUrl, h.block q hU.lt hb (.inl hq)]; exact hU
end Go.Proofs.YtlcljanibjdejaaGreat
namespace Go.Proofs.YtlcljanibjdejaaGreat
open Go.RowKit
/-- Where the last / stands; -1: nowhere. -/
def LastAt (l : List UInt8) (i : Int) : Prop := (i = -1 ∧ ∀ d ∈ l, d ≠ 47) ∨ ∃ k : Nat, i = k ∧ ∃ h : k < l.length, l[k] = 47 ∧ ∀ j (hj : j < l.length), k < j → l[j] ≠ 47
theorem LastAt.split {l : List UInt8} {k : Nat} (h : k < l.length) (h1 : l[k] = 47) (h2 : ∀ j (hj : j < l.length), k < j → l[j] ≠ 47) : l = l.take k ++ 47 :: l.drop (k + 1) ∧ ∀ d ∈ l.drop (k + 1), d ≠ 47 := by
  refine ⟨?_, ?_⟩
  · rw [← h1, List.getElem_cons_drop, List.take_append_drop]
  · intro d hd
    obtain ⟨j, hj, rfl⟩ := List.getElem_of_mem hd
    rw [List.getElem_drop]
    exact h2 _ _ (by omega)
theorem LastAt.cut {l : List UInt8} {i : Int} (h : LastAt l i) : cutLast l = l.take (max i 0).toNat ∧ (max i 0).toNat ≤ l.length := by
  rcases h with ⟨rfl, hn⟩ | ⟨k, rfl, hk, h1, h2⟩
  · rw [cutLast_none l hn]
    exact ⟨rfl, Nat.zero_le _⟩
  · obtain ⟨e, hn⟩ := LastAt.split hk h1 h2
    have : cutLast l = l.take k := by
      conv => lhs; rw [e]
      exact cutLast_at _ _ hn
    rw [this]
    have e2 : (max (k : Int) 0).toNat = k := by omega
    rw [e2]
    exact ⟨rfl, by omega⟩
theorem LastAt.up {l : List UInt8} {i : Int} (h : LastAt l i) : upSl l = l.take (i + 1).toNat ∧ -1 ≤ i ∧ i < l.length := by
  rcases h with ⟨rfl, hn⟩ | ⟨k, rfl, hk, h1, h2⟩
  · rw [upSl_none l hn]; simp; omega
  · obtain ⟨e, hn⟩ := LastAt.split hk h1 h2
    have : upSl l = l.take (k + 1) := by
      conv => lhs; rw [e]
      rw [upSl_at _ _ hn, List.take_succ_eq_append_getElem hk, h1]
    rw [this]
    have e2 : ((k : Int) + 1).toNat = k + 1 := by omega
    rw [e2]
    exact ⟨rfl, by omega, by omega⟩
end Go.Proofs.YtlcljanibjdejaaGreat
namespace Go.Proofs.YtlcljanibjdejaaGreat
open Go.RowKit
theorem IsStr.free {w : World} {p : Nat} {x : ByteArray} (h : IsStr w p x) : w.frozen? ⟨p, 0, none⟩ = false := by
  simp [World.frozen?, IsStr] at h ⊢; simp [h]
theorem IsStr.set {w : World} {p : Nat} {x : ByteArray} (h : IsStr w p x) (y : ByteArray) : IsStr (w.setCell ⟨p, 0, none⟩ (.string y)) p y := by
  simp [World.setCell, IsStr, Array.getElem?_modify] at h ⊢; simp [h]
/-- What holds while dots go: what is left, what has come. -/
structure Do (w : World) (N : Nat) (R : List UInt8) (v : Value) (W : World) (X : ByteArray) (o : List UInt8) : Prop where
  str : IsStr W w.heap.size X
  row : W.ownsRow (w.heap.size + 1) 5 1 v o.length (Lib.byteCells o)
  left : dotsR X.data.toList o = R
  len : X.size + o.length ≤ N
  keeps : Keeps [] w W
theorem Do.ne {w : World} {N : Nat} {R : List UInt8} {v : Value} {W : World} {X : ByteArray} {o : List UInt8} (h : Do w N R v W X o) : v.ownBlock ≠ some w.heap.size := by
  intro e
  have := (h.row.lt _ e).1
  omega
end Go.Proofs.YtlcljanibjdejaaGreat
namespace Go.Proofs.YtlcljanibjdejaaGreat
open Go.RowKit
structure Rs (w : World) (x y r : Nat) (b : UrlT) (W : World) (u : UrlT) : Prop where
  base : IsUrl W x b
  url : IsUrl W y u
  res : IsUrl W r noUrl
  keeps : Keeps [] w W
  xw : w.heap.size ≤ x
  yw : w.heap.size ≤ y
  rw : w.heap.size ≤ r
  ne1 : x ≠ y
  ne2 : y ≠ r
  ne3 : x ≠ r
theorem Rs.move {w : World} {x y r : Nat} {b : UrlT} {W W' : World} {u : UrlT} (h : Rs w x y r b W u) (hk : Keeps [] W W') : Rs w x y r b W' u :=
  ⟨h.base.keeps hk (by simp), h.url.keeps hk (by simp), h.res.keeps hk (by simp), h.keeps.trans hk, h.xw, h.yw, h.rw, h.ne1, h.ne2, h.ne3⟩
theorem Rs.put {w : World} {x y r : Nat} {b : UrlT} {W : World} {u u' : UrlT} (h : Rs w x y r b W u) {j : Nat} {v : Value} (hU : IsUrl (W.setCell ⟨y, j, none⟩ v) y u') : Rs w x y r b (W.setCell ⟨y, j, none⟩ v) u' := by
  have hk : Keeps [y] W (W.setCell ⟨y, j, none⟩ v) := (Keeps.refl [y] W).setCell (p := ⟨y, j, none⟩) (by simp) v
  exact ⟨h.base.keeps hk (by simpa using h.ne1), hU, h.res.keeps hk (by simpa using h.ne2.symm), h.keeps.setCell (.inr h.yw) v, h.xw, h.yw, h.rw, h.ne1, h.ne2, h.ne3⟩
end Go.Proofs.YtlcljanibjdejaaGreat
namespace Go.Proofs.YtlcljanibjdejaaGreat
open Go.RowKit
theorem KeepsB.text {B d : Nat} {w w' : World} {b : Nat} {s : ByteArray} {k : Nat} (h : KeepsB B d w w') (hT : IsText w b s k) (hb : b < B) (hd : b ≠ d) : IsText w' b s k := by
  rw [IsText, h.block b hT.lt hd (.inl hb)]; exact hT
end Go.Proofs.YtlcljanibjdejaaGreat
namespace Go.Proofs.YtlcljanibjdejaaGreat
open Go.RowKit Go.Maps
set_option maxHeartbeats 1000000 in
theorem Walk_any {σ : Type} {K : Nat} {caps : Array Value} {f : σ → List Nd → Nat → List Nd → σ × Bool} {I : σ → World → Prop} {S : List Nat} {B1 : Nat} {P : Nat → Prop} {F : List Nd → Prop} (V : Vis K caps f I S B1 P F)
    (w : World) (v : Value) (ns : List Nd) (h : Ns w P v ns) (s : σ) (hI : I s w) (hB : B1 ≤ w.heap.size) (hsz : sizeNs ns ≤ 2000000) (hF : F ns) :
    Calls Tryz.prog 87 #[v, .func (.func K) #[] caps] w fun e w' => e = .returned (.bool (walkL f ns ns 0 [] s).2) ∧ I (walkL f ns ns 0 [] s).1 w' ∧ Keeps S w w' := by
  have hc := hide (walk_all V w v ns h w [] (Keeps.refl _ _) (fun _ _ => List.not_mem_nil) s (.slice none 0 0) [] hI (World.ownsRow_nil _ _ _ _) hB (by simpa using hsz) hF)
  simp only [List.map_nil] at hc
  generalize walkL f ns ns 0 [] s = R at *
  obtain ⟨o, c, hv⟩ := h.form
  subst hv
  clear h
  go_enter Tryz.func87, Tryz.ntmps87
  go_wp2_with fail
  refine hc.out.mono ?_
  rintro e w1 ⟨rfl, h1, _, h2⟩
  go_wp2_with fail
  go_ret
  exact ⟨rfl, h1, h2.mono (fun g hg _ => by simpa [chgW, Value.ownBlock] using hg)⟩
/-- A number in a block. -/
def IsNum (w : World) (c : Nat) (t : TypeId) (s : Int) : Prop := w.heap[c]? = some (.cells #[.int .i64 s] t (0, 0))
theorem IsNum.keeps {S : List Nat} {w w' : World} {c : Nat} {t : TypeId} {s : Int} (h : IsNum w c t s) (hk : Keeps S w w') (hc : c ∉ S) : IsNum w' c t s := by
  unfold IsNum at *
  rw [hk.block c (lt_of_block h) hc]; exact h
theorem IsNum.set {w : World} {c : Nat} {t : TypeId} {s : Int} (h : IsNum w c t s) (u : Int) : IsNum (w.setCell ⟨c, 0, none⟩ (.int .i64 u)) c t u := by
  unfold IsNum at *
  simp [World.setCell, Array.getElem?_modify, h]
def fitsF (s : Int) (b : List Nd) (i : Nat) (ar : List Nd) : Int × Bool :=
  (wrap64 (s + 1), decide (wrap64 (s + 1) ≤ 3000) && ((b[i]?.map Nd.name == some []) || decide (ar.length < 8)))
set_option maxRecDepth 4000 in
set_option maxHeartbeats 2000000 in
theorem fits1_any (P : Nat → Prop) (B1 c : Nat) (s : Int) (w : World) (v : Value) (ns : List Nd) (i : Nat) (av : Value) (pl : List Pn) (hI : IsNum w c 3 s) (hN : Ns w P v ns) (hi : i < ns.length) (hrow : w.ownsRow B1 45 4 av pl.length (pnsCells pl)) (hpl : pl.length ≤ 2000000) (hc : ∀ g, P g → g ≠ c) :
    Calls Tryz.prog 251 #[v, .int .i64 i, av, .pointer (some ⟨c, 0, none⟩)] w fun e w' => e = .returned (.bool (fitsF s ns i (pl.map Pn.nd)).2) ∧ IsNum w' c 3 (fitsF s ns i (pl.map Pn.nd)).1 ∧ Keeps [c] w w' := by
  unfold fitsF
  simp only
  cases hN with
  | mk _ l _ hns hl ha hk =>
  obtain ⟨o, c', rfl, h1, h2⟩ := hl.lies.form
  obtain ⟨ao, ac, hav⟩ := row_form hrow
  subst hav
  subst hns
  rw [List.length_map] at hi
  have hd0 : w.cell? ⟨c, 0, none⟩ = some (.int .i64 s) := cell_blk hI 0
  have hd1 : w.frozen? ⟨c, 0, none⟩ = false := free_blk hI 0
  rcases hl.2 with ⟨h0, _⟩ | ⟨g, x, c9, e9, _, _, _, hPg, hcl⟩
  · omega
  simp only [Value.slice.injEq] at e9
  obtain ⟨rfl, _, rfl⟩ := e9
  obtain ⟨a0, _, _, _⟩ := lies_pn hcl i hi
  have hgc : g ≠ c := hc g hPg
  have a0s : ∀ u, (w.setCell ⟨c, 0, none⟩ u).cell? ⟨g, x + i * 4, none⟩ = some (.string ⟨l[i].nd.name.toArray⟩) := fun u =>
    cell_keepsS ((Keeps.refl [c] w).setCell (p := ⟨c, 0, none⟩) (.inl (by simp)) u) (a := ⟨g, x + i * 4, none⟩) (by simpa using hgc) a0
  have hnm : ((l.map Pn.nd)[i]?.map Nd.name == some []) = decide (l[i].nd.name = []) := by
    rw [List.getElem?_map, List.getElem?_eq_getElem hi, Bool.eq_iff_iff]
    simp
  rw [hnm, List.length_map]
  have p0 := emptyB l[i].nd.name
  have hst := hI.set (wrap64 (s + 1))
  have hks : Keeps [c] w (w.setCell ⟨c, 0, none⟩ (.int .i64 (wrap64 (s + 1)))) := (Keeps.refl [c] w).setCell (.inl (by simp)) _
  clear hcl hnm hrow ha hk hl
  obtain ⟨S1, hS1⟩ : ∃ S1, wrap64 (s + 1) = S1 := ⟨_, rfl⟩
  rw [hS1] at hst hks ⊢
  generalize l[i].nd.name = nm at *
  unfold maxLen at h2
  have d2 : (w.setCell ⟨c, 0, none⟩ (.int .i64 S1)).cell? ⟨c, 0, none⟩ = some (.int .i64 S1) := cell_blk hst 0
  by_cases q1 : S1 ≤ 3000
  · have q1b : decide (S1 ≤ 3000) = true := by simpa using q1
    rw [q1b, Bool.true_and]
    by_cases q2 : nm = []
    · have q2b : decide (nm = []) = true := by simpa using q2
      rw [q2b]
      rw [Bool.true_or]
      subst q2
      clear p0 q2b
      go_enter Tryz.func251, Tryz.ntmps251
      go_wp2_with fail
      go_ret
      exact ⟨rfl, hst, hks⟩
    · have q2b : decide (nm = []) = false := by simpa using q2
      rw [q2b]
      rw [Bool.false_or]
      have q2e : nm.isEmpty = false := by cases nm <;> simp_all
      clear q2 p0 q2b
      by_cases q3 : pl.length < 8
      · have q3b : decide (pl.length < 8) = true := by simpa using q3
        have q3c : (pl.length : Int) < 8 := by omega
        rw [q3b]
        go_enter Tryz.func251, Tryz.ntmps251
        go_wp2_with fail
        go_ret
        exact ⟨rfl, hst, hks⟩
      · have q3b : decide (pl.length < 8) = false := by simpa using q3
        have q3c : ¬ (pl.length : Int) < 8 := by omega
        rw [q3b]
        go_enter Tryz.func251, Tryz.ntmps251
        go_wp2_with fail
        go_ret
        exact ⟨rfl, hst, hks⟩
  · have q1b : decide (S1 ≤ 3000) = false := by simpa using q1
    rw [q1b, Bool.false_and]
    go_enter Tryz.func251, Tryz.ntmps251
    go_wp2_with fail
    go_ret
    exact ⟨rfl, hst, hks⟩
end Go.Proofs.YtlcljanibjdejaaGreat
namespace Go.Proofs.YtlcljanibjdejaaGreat
open Go.RowKit Go.Maps
theorem enters251 : Enters 251 := enters_of Tryz.func251 (by kernel_rfl) (by kernel_rfl)
theorem Ns.lt {w : World} {P : Nat → Prop} {v : Value} {ns : List Nd} (h : Ns w P v ns) : Ns w (fun g => g < w.heap.size) v ns := h.mono (fun _ hg _ => hg)
theorem fits_vis (c B1 : Nat) (h : c < B1) : Vis 251 #[.pointer (some ⟨c, 0, none⟩)] fitsF (fun s w => IsNum w c 3 s) [c] B1 (fun g => g < c) (fun _ => True) where
  call s w v ns i av pl hI hN _ hi hrow hpl _ := fits1_any _ B1 c s w v ns i av pl hI hN hi hrow hpl (fun g hg => by omega)
  stable s w w' L hL hI hk := hI.keeps hk (fun hm => by have := hL c hm; omega)
  down _ _ _ _ := trivial
  low g hg := by simp at hg; omega
  enters := enters251
  part g hg := ⟨by omega, by simp; omega⟩
set_option maxHeartbeats 1000000 in
theorem fits_any (w : World) (P : Nat → Prop) (v : Value) (ns : List Nd) (h : Ns w P v ns) (hsz : sizeNs ns ≤ 2000000) :
    Calls Tryz.prog 181 #[v] w fun e w' => e = .returned (.bool (walkL fitsF ns ns 0 [] 0).2) ∧ Keeps [] w w' := by
  have hka : Keeps [] w (w.alloc (.cells #[.int .i64 0] 3)) := (Keeps.refl [] w).alloc _
  have hc := hide (Walk_any (fits_vis w.heap.size (w.heap.size + 1) (by omega)) (w.alloc (.cells #[.int .i64 0] 3)) v ns (h.lt.keeps0 hka) 0 (heap_alloc_new w _) (by simp) hsz trivial)
  generalize walkL fitsF ns ns 0 [] 0 = R at *
  obtain ⟨o, c, hv⟩ := h.form
  subst hv
  clear h
  go_enter Tryz.func181, Tryz.ntmps181
  go_wp2_with fail
  refine hc.out.mono ?_
  rintro e w1 ⟨rfl, _, h2⟩
  go_wp2_with fail
  go_ret
  refine ⟨rfl, ?_⟩
  have h3 := keeps_within hka h2 (fun g hg hlt => by simp at hg; omega)
  exact h3
def chkTextOf (tx : List UInt8) (at' : List Pair) (ks : List Nd) (prev : Bool) : Int := if tx.isEmpty = true ∨ 0 < at'.length ∨ 0 < ks.length then 1 else if prev = true then 4 else 0
def prevText (b : List Nd) (i : Nat) : Bool := decide (0 < i) && (b[i - 1]?.map Nd.name == some [])
def chkText (b : List Nd) (i : Nat) : Int :=
  match b[i]? with
  | none => 0
  | some n => chkTextOf n.text n.attrs n.kids (prevText b i)
set_option maxRecDepth 4000 in
set_option maxHeartbeats 4000000 in
theorem checkText_any (w : World) (P : Nat → Prop) (v : Value) (ns : List Nd) (i : Nat) (hN : Ns w P v ns) (hi : i < ns.length) :
    Calls Tryz.prog 183 #[v, .int .i64 i] w fun e w' => e = .returned (.int .i64 (chkText ns i)) ∧ Keeps [] w w' := by
  cases hN with
  | mk _ l _ hns hl ha hk =>
  obtain ⟨o, c', rfl, h1, h2⟩ := hl.lies.form
  subst hns
  rw [List.length_map] at hi
  obtain ⟨g, x, rfl, hcl⟩ := hl.lies.addr (by omega)
  obtain ⟨a0, a1, a2, a3⟩ := lies_pn hcl i hi
  have hprev : 0 < i → ∃ pn : List UInt8, w.cell? ⟨g, x + (i - 1) * 4, none⟩ = some (.string ⟨pn.toArray⟩) ∧ prevText (l.map Pn.nd) i = pn.isEmpty := fun h0 => by
    refine ⟨l[i - 1].nd.name, (lies_pn hcl (i - 1) (by omega)).1, ?_⟩
    unfold prevText
    rw [List.getElem?_map, List.getElem?_eq_getElem (by omega)]
    cases hq : l[i - 1].nd.name <;> simp [h0, hq]
  have hno : i = 0 → prevText (l.map Pn.nd) i = false := fun h0 => by simp [prevText, h0]
  have hc0 : chkText (l.map Pn.nd) i = chkTextOf l[i].nd.text l[i].nd.attrs l[i].nd.kids (prevText (l.map Pn.nd) i) := by
    unfold chkText
    rw [List.getElem?_map, List.getElem?_eq_getElem hi]
    rfl
  rw [hc0]
  obtain ⟨oa, ca, hav⟩ := (ha l[i] (List.getElem_mem hi)).form
  obtain ⟨ok, ck, hkv⟩ := (hk l[i] (List.getElem_mem hi)).form
  rw [hav] at a1
  rw [hkv] at a3
  clear hcl hav hkv ha hk hl hc0
  generalize prevText (l.map Pn.nd) i = pb at *
  generalize l[i].nd = nd at *
  generalize nd.attrs = at' at *
  generalize nd.text = tx at *
  generalize nd.kids = ks at *
  generalize nd.name = nm at *
  have hka : Keeps [] w (w.alloc (.cells #[.string ⟨nm.toArray⟩, .slice oa at'.length ca, .string ⟨tx.toArray⟩, .slice ok ks.length ck] 45)) := (Keeps.refl [] w).alloc _
  unfold maxLen at h2
  cases t0 : tx.isEmpty
  · by_cases t1 : 0 < at'.length
    · have e1 : chkTextOf tx at' ks pb = 1 := by simp only [chkTextOf, t1, true_or, or_true, if_true]
      rw [e1]
      clear hprev hno e1
      go_enter Tryz.func183, Tryz.ntmps183
      go_wp2_with fail
      go_ret
      exact ⟨rfl, hka⟩
    · by_cases t2 : 0 < ks.length
      · have e1 : chkTextOf tx at' ks pb = 1 := by simp only [chkTextOf, t2, or_true, if_true]
        rw [e1]
        clear hprev hno e1
        go_enter Tryz.func183, Tryz.ntmps183
        go_wp2_with fail
        go_ret
        exact ⟨rfl, hka⟩
      · have e1 : chkTextOf tx at' ks pb = if pb = true then 4 else 0 := by simp only [chkTextOf, t0, t1, t2, or_self, if_false, Bool.false_eq_true]
        rw [e1]
        clear e1
        by_cases i0 : 0 < i
        · obtain ⟨pn, p9, hp9⟩ := hprev i0
          have p9a : ∀ o', (w.alloc o').cell? ⟨g, x + (i - 1) * 4, none⟩ = some (.string ⟨pn.toArray⟩) := fun o' => cell_keeps ((Keeps.refl [] w).alloc o') p9
          have i1 : ((i : Int) - 1) = ((i - 1 : Nat) : Int) := by omega
          have ib : i ≤ 9223372036854775807 := by omega
          rw [hp9]
          clear hprev hno hp9
          cases q : pn.isEmpty
          · rw [if_neg (by simp)]
            go_enter Tryz.func183, Tryz.ntmps183
            go_wp2_with fail
            go_ret
            exact ⟨rfl, hka⟩
          · rw [if_pos rfl]
            go_enter Tryz.func183, Tryz.ntmps183
            go_wp2_with fail
            go_ret
            exact ⟨rfl, hka⟩
        · have hi0 : i = 0 := by omega
          rw [hno hi0, if_neg (by simp)]
          clear hprev hno hi0
          go_enter Tryz.func183, Tryz.ntmps183
          go_wp2_with fail
          go_ret
          exact ⟨rfl, hka⟩
  · have e1 : chkTextOf tx at' ks pb = 1 := by simp only [chkTextOf, t0, true_or, if_true]
    rw [e1]
    clear hprev hno e1
    go_enter Tryz.func183, Tryz.ntmps183
    go_wp2_with fail
    go_ret
    exact ⟨rfl, hka⟩
end Go.Proofs.YtlcljanibjdejaaGreat
namespace Go.Proofs.YtlcljanibjdejaaGreat
open Go.RowKit Go.Maps
/-- Cells that are laid anew lie there. -/
theorem lies_new (w : World) (cs : Array Value) (t : TypeId) (n z : Nat) (hn : n ≤ maxLen) (hz : cs.size = n * z) : Lies (w.alloc (.cells cs t)) (.slice (some ⟨w.heap.size, 0, none⟩) n n) n z cs.toList :=
  ⟨by simpa using hz, .inr (.inl ⟨_, 0, n, rfl, Nat.le_refl _, hn, fun j u hj => by
    have := lit_cells w cs t j u hj
    rw [add_zero] at this
    rw [Nat.zero_add]
    exact this⟩)⟩
end Go.Proofs.YtlcljanibjdejaaGreat
namespace Go.Proofs.YtlcljanibjdejaaGreat
open Go.RowKit Go.Maps
def FitsNs : List Nd → Prop
  | [] => True
  | .mk n a _ k :: r => (n.length ≤ maxLen ∧ Fits a) ∧ FitsNs k ∧ FitsNs r
theorem fits_mem {n : Nd} : {ns : List Nd} → FitsNs ns → n ∈ ns → (n.name.length ≤ maxLen ∧ Fits n.attrs) ∧ FitsNs n.kids
  | .mk m a t k :: r, h, hm => by
    unfold FitsNs at h
    rcases List.mem_cons.1 hm with rfl | hm
    · exact ⟨h.1, h.2.1⟩
    · exact fits_mem h.2.2 hm
end Go.Proofs.YtlcljanibjdejaaGreat
namespace Go.Proofs.YtlcljanibjdejaaGreat
open Go.RowKit Go.Maps
theorem enters182 : Enters 182 := enters_of Tryz.func182 (by kernel_rfl) (by kernel_rfl)
/-- A function lies in a block. -/
def IsFn (w : World) (b : Nat) : Prop := w.heap[b]? = some (.cells #[.func (.func 94) #[] #[]] 129 (0, 0))
theorem IsFn.keeps {S : List Nat} {w w' : World} {b : Nat} (h : IsFn w b) (hk : Keeps S w w') (hb : b ∉ S) : IsFn w' b := by
  unfold IsFn at *
  rw [hk.block b (lt_of_block h) hb]; exact h
end Go.Proofs.YtlcljanibjdejaaGreat

/- A value of an attribute: value. -/
import Derived.Test.YtngojdajamgababGreatSteps
namespace Go.Proofs.YtngojdajamgababGreat
open Go.RowKit

/-- A reader of markup lies in block r; its text in block b. -/
def IsReader (w : World) (r b : Nat) (rawv outv : Value) : Prop := w.heap[r]? = some (.cells #[.pointer (some ⟨b, 0, none⟩), rawv, outv] 74 (0, 0))

theorem IsReader.lt {w : World} {r b : Nat} {rawv outv : Value} (h : IsReader w r b rawv outv) : r < w.heap.size := lt_of_block h
theorem IsReader.keeps {S : List Nat} {w w' : World} {r b : Nat} {rawv outv : Value} (h : IsReader w r b rawv outv) (hk : Keeps S w w') (hr : r ∉ S) : IsReader w' r b rawv outv := by
  rw [IsReader, hk.block r h.lt hr]; exact h
theorem IsReader.cell0 {w : World} {r b : Nat} {rawv outv : Value} (h : IsReader w r b rawv outv) : w.cell? ⟨r, 0, none⟩ = some (.pointer (some ⟨b, 0, none⟩)) := by
  simp [World.cell?, IsReader] at h ⊢; simp [h]
theorem IsReader.cell1 {w : World} {r b : Nat} {rawv outv : Value} (h : IsReader w r b rawv outv) : w.cell? ⟨r, 1, none⟩ = some rawv := by
  simp [World.cell?, IsReader] at h ⊢; simp [h]
theorem IsReader.cell2 {w : World} {r b : Nat} {rawv outv : Value} (h : IsReader w r b rawv outv) : w.cell? ⟨r, 2, none⟩ = some outv := by
  simp [World.cell?, IsReader] at h ⊢; simp [h]
theorem IsReader.free {w : World} {r b : Nat} {rawv outv : Value} (h : IsReader w r b rawv outv) (j : Nat) : w.frozen? ⟨r, j, none⟩ = false := by
  simp [World.frozen?, IsReader] at h ⊢; simp [h]
theorem IsReader.ne {w : World} {r b : Nat} {rawv outv : Value} (h : IsReader w r b rawv outv) {t : Nat} {s : ByteArray} {k : Nat} (hT : IsText w t s k) : r ≠ t := by
  intro e
  subst e
  rw [IsReader, hT] at h
  simp at h

theorem IsText.at {w : World} {b : Nat} {s : ByteArray} {k j : Nat} (h : IsText w b s k) (e : k = j) : IsText w b s j := e ▸ h

/-- The value that stands at the head, and how many bytes are passed; none: it has no end. -/
def valL (l : List UInt8) : Option (List UInt8 × Nat) :=
  match l with
  | [] => none
  | c :: r => if c = 34 ∨ c = 39 then (if (r.takeWhile (· != c)).length < r.length then some (r.takeWhile (· != c), (r.takeWhile (· != c)).length + 2) else none)
    else some ((c :: r).takeWhile valN, ((c :: r).takeWhile valN).length)

theorem enters115 : Enters 115 := enters_of Tryz.func115 (by kernel_rfl) (by kernel_rfl)
theorem enters116 : Enters 116 := enters_of Tryz.func116 (by kernel_rfl) (by kernel_rfl)
theorem enters72 : Enters 72 := enters_of Tryz.func72 (by kernel_rfl) (by kernel_rfl)
theorem enters73 : Enters 73 := enters_of Tryz.func73 (by kernel_rfl) (by kernel_rfl)

theorem pass_list (f : UInt8 → Bool) (s : ByteArray) (k : Nat) : (s.extract k (k + passLen f (s.data.toList.drop k))).data.toList = (s.data.toList.drop k).takeWhile f := by
  rw [Lib.extract_data, Nat.add_sub_cancel_left]
  exact (List.prefix_iff_eq_take.1 (List.takeWhile_prefix _)).symm

theorem pass_str (f : UInt8 → Bool) (s : ByteArray) (k : Nat) : s.extract k (k + passLen f (s.data.toList.drop k)) = ⟨((s.data.toList.drop k).takeWhile f).toArray⟩ := by
  apply WideShapes.bytes_inj
  rw [pass_list]

/-- Pass, for a function without what it captures. -/
theorem pass_of (K : Nat) (f : UInt8 → Bool) (hK : Enters K) (hf : ∀ (c : UInt8) (w : World), Calls Tryz.prog K #[.int .u8 c.toNat] w fun e w' => e = .returned (.bool (f c)) ∧ w' = w)
    (b : Nat) (s : ByteArray) (k : Nat) (w : World) (hs : s.size ≤ 3000) (hT : IsText w b s k) (hk : k ≤ s.size) :
    Calls Tryz.prog 73 #[.pointer (some ⟨b, 0, none⟩), .func (.func K) #[] #[]] w fun e w' =>
      e = .returned (.string ⟨((s.data.toList.drop k).takeWhile f).toArray⟩) ∧ IsText w' b s (k + ((s.data.toList.drop k).takeWhile f).length) ∧ Keeps [b] w w' := by
  rw [← pass_str]
  exact pass_any K #[] f b s k w hs hT hk hK fun c w1 _ => (hf c w1).mono fun _ _ ⟨he, hw⟩ => ⟨he, 0, hw⟩

theorem takeWhile_le (f : UInt8 → Bool) (s : ByteArray) (k : Nat) (hk : k ≤ s.size) : k + ((s.data.toList.drop k).takeWhile f).length ≤ s.size := by
  have h1 : (s.data.toList.drop k).length = s.size - k := by rw [List.length_drop]; rfl
  have h2 : ((s.data.toList.drop k).takeWhile f).length ≤ (s.data.toList.drop k).length := (List.takeWhile_sublist _).length_le
  omega

theorem peekY (b : Nat) (s : ByteArray) (k : Nat) (w : World) (hT : IsText w b s k) (hk : k < s.size) :
    Calls Tryz.prog 95 #[.pointer (some ⟨b, 0, none⟩)] w fun e w' => e = .returned (.int .u8 (byteAt s k).toNat) ∧ IsText w' b s k ∧ Keeps [] w w' :=
  (peek_yes b s k w hT hk).mono fun _ _ ⟨he, _, hw⟩ => ⟨he, by rw [hw]; exact hT, by rw [hw]; exact (Keeps.refl _ _).drewN _⟩
theorem peekN (b : Nat) (s : ByteArray) (k : Nat) (w : World) (hT : IsText w b s k) (hk : s.size ≤ k) :
    Calls Tryz.prog 95 #[.pointer (some ⟨b, 0, none⟩)] w fun e w' => e = .panicked gave ∧ IsText w' b s k ∧ Keeps [] w w' :=
  (peek_no b s k w hT hk).mono fun _ _ ⟨he, _, hw⟩ => ⟨he, by rw [hw]; exact hT, by rw [hw]; exact (Keeps.refl _ _).drewN _⟩
theorem oneN (b : Nat) (s : ByteArray) (k : Nat) (w : World) (hT : IsText w b s k) (hk : s.size ≤ k) :
    Calls Tryz.prog 72 #[.pointer (some ⟨b, 0, none⟩)] w fun e w' => e = .panicked gave ∧ IsText w' b s k ∧ Keeps [] w w' :=
  (one_no b s k w hT hk).mono fun _ _ ⟨he, _, hw⟩ => ⟨he, by rw [hw]; exact hT, by rw [hw]; exact (Keeps.refl _ _).drewN _⟩

theorem Keeps.to {S T : List Nat} {w w' : World} (h : Keeps S w w') (hS : ∀ k, k ∈ S → k ∈ T) : Keeps T w w' := h.mono fun k hk _ => hS k hk

set_option maxHeartbeats 1000000 in
theorem value_plain (r b : Nat) (rawv outv : Value) (s : ByteArray) (k : Nat) (w : World) (hs : s.size ≤ 3000) (hR : IsReader w r b rawv outv) (hT : IsText w b s k) (hlt : k < s.size) (h1 : byteAt s k ≠ 34) (h2 : byteAt s k ≠ 39) :
    Calls Tryz.prog 108 #[.pointer (some ⟨r, 0, none⟩)] w fun e w' =>
      e = .returned (.string ⟨((s.data.toList.drop k).takeWhile valN).toArray⟩) ∧ IsText w' b s (k + ((s.data.toList.drop k).takeWhile valN).length) ∧ Keeps [b] w w' := by
  have hne := hR.ne hT
  have c0 := hR.cell0
  have h34 : (((byteAt s k).toNat : Int) != 34) = true := by rw [← bne_at (d := 34) (k := 34) rfl]; simpa using h1
  have h39 : (((byteAt s k).toNat : Int) != 39) = true := by rw [← bne_at (d := 39) (k := 39) rfl]; simpa using h2
  have hp := hide (fun w hT => pass_of 115 valN enters115 valN_any b s k w hs hT (by omega))
  generalize (s.data.toList.drop k).takeWhile valN = L at *
  go_enter Tryz.func108, Tryz.ntmps108
  go_wp2_with fail
  refine (peekY b s k _ hT hlt).mono ?_
  rintro e w1 ⟨rfl, hT1, hk1⟩
  have hR1 := hR.keeps hk1 (by simp)
  have hz1 := hR1.lt
  have ca : ∀ o, (w1.alloc o).cell? ⟨r, 0, none⟩ = some (.pointer (some ⟨b, 0, none⟩)) := fun o => (cell_past (a := ⟨r, 0, none⟩) hz1 o).trans hR1.cell0
  go_wp2_with fail
  refine (hp.out _ (hT1.keeps ((Keeps.refl [] w1).alloc _) (by simp))).mono ?_
  rintro e w2 ⟨rfl, hT2, hk2⟩
  go_wp2_with fail
  go_ret
  exact ⟨rfl, hT2, (hk1.to (by simp)).trans (((Keeps.refl [b] w1).alloc _).trans hk2)⟩

set_option maxHeartbeats 1000000 in
theorem value_34 (r b : Nat) (rawv outv : Value) (s : ByteArray) (k : Nat) (w : World) (hs : s.size ≤ 3000) (hR : IsReader w r b rawv outv) (hT : IsText w b s k) (hlt : k < s.size) (hq : byteAt s k = 34)
    (m : Nat) (L : List UInt8) (hL : (s.data.toList.drop (k + 1)).takeWhile (· != 34) = L) (hm : m = k + 1 + L.length) :
    Calls Tryz.prog 108 #[.pointer (some ⟨r, 0, none⟩)] w fun e w' =>
      ((m < s.size ∧ e = .returned (.string ⟨L.toArray⟩) ∧ IsText w' b s (m + 1)) ∨ (s.size ≤ m ∧ e = .panicked gave ∧ ∃ j, IsText w' b s j)) ∧ Keeps [b] w w' := by
  have hne := hR.ne hT
  have c0 := hR.cell0
  have hmf : ∀ (fn : Fn) (first cap : Array Value) (w : World), (Instr.makeFunc fn first cap).run Tryz.prog w = .ok (.func fn first cap) w := fun _ _ _ _ => rfl
  have hpass := hide (fun (w : World) (p : Nat) (hT : IsText w b s (k + 1)) (hp : w.heap[p]? = some (.cells #[.int .u8 34] 5 (0, 0))) (hne : p ≠ b) =>
    pass_any 116 #[.pointer (some ⟨p, 0, none⟩)] (· != 34) b s (k + 1) w hs hT (by omega) enters116 fun c w1 hk => (quote_any c 34 ⟨p, 0, none⟩ w1 (cell_of_one (by rw [hk.block p (lt_of_block hp) (by simpa using hne)]; exact hp))).mono fun _ _ ⟨he, hw⟩ => ⟨he, 0, hw⟩)
  have hstr : s.extract (k + 1) (k + 1 + passLen (· != 34) (s.data.toList.drop (k + 1))) = ⟨L.toArray⟩ := by rw [pass_str, hL]
  have hlen : k + 1 + passLen (· != 34) (s.data.toList.drop (k + 1)) = m := by rw [hm, ← hL]; rfl
  rw [hstr, hlen] at hpass
  clear hstr hlen hL
  have hml : k + 1 ≤ m := by omega
  clear hm
  by_cases hm2 : m < s.size
  · go_enter Tryz.func108, Tryz.ntmps108
    go_wp2_with fail
    refine (peekY b s k _ hT hlt).mono ?_
    rw [hq]
    rintro e w1 ⟨rfl, hT1, hk1⟩
    have hR1 := hR.keeps hk1 (by simp)
    have hz1 := hR1.lt
    have ca : ∀ o, (w1.alloc o).cell? ⟨r, 0, none⟩ = some (.pointer (some ⟨b, 0, none⟩)) := fun o => (cell_past (a := ⟨r, 0, none⟩) hz1 o).trans hR1.cell0
    go_wp2_with fail
    have hnew := heap_alloc_new w1 (.cells #[.int .u8 34] 5)
    have hb1 := hT1.lt
    have ha : Keeps [b] w1 (w1.alloc (.cells #[.int .u8 34] 5)) := (Keeps.refl [b] w1).alloc _
    refine (one_yes b s k _ hs (hT1.keeps ((Keeps.refl [] w1).alloc _) (by simp)) hlt).mono ?_
    rintro e w2 ⟨rfl, hT2, hk2⟩
    have hnew2 : w2.heap[w1.heap.size]? = some (.cells #[.int .u8 34] 5 (0, 0)) := by rw [hk2.block _ (by simp) (by simp; omega)]; exact hnew
    have hR2 := hR1.keeps (ha.trans hk2) (by simpa using hne)
    have c2 := hR2.cell0
    go_wp2_with fail
    refine (hpass.out _ _ hT2 hnew2 (by omega)).mono ?_
    rintro e w3 ⟨rfl, hT3, hk3⟩
    have hR3 := hR2.keeps hk3 (by simpa using hne)
    have c3 := hR3.cell0
    go_wp2_with fail
    refine (one_yes b s m _ hs hT3 hm2).mono ?_
    rintro e w4 ⟨rfl, hT4, hk4⟩
    go_wp2_with fail
    go_ret
    exact ⟨.inl ⟨hm2, rfl, hT4⟩, (hk1.to (by simp)).trans (((ha.trans hk2).trans hk3).trans hk4)⟩
  · go_enter Tryz.func108, Tryz.ntmps108
    go_wp2_with fail
    refine (peekY b s k _ hT hlt).mono ?_
    rw [hq]
    rintro e w1 ⟨rfl, hT1, hk1⟩
    have hR1 := hR.keeps hk1 (by simp)
    have hz1 := hR1.lt
    have ca : ∀ o, (w1.alloc o).cell? ⟨r, 0, none⟩ = some (.pointer (some ⟨b, 0, none⟩)) := fun o => (cell_past (a := ⟨r, 0, none⟩) hz1 o).trans hR1.cell0
    go_wp2_with fail
    have hnew := heap_alloc_new w1 (.cells #[.int .u8 34] 5)
    have hb1 := hT1.lt
    have ha : Keeps [b] w1 (w1.alloc (.cells #[.int .u8 34] 5)) := (Keeps.refl [b] w1).alloc _
    refine (one_yes b s k _ hs (hT1.keeps ((Keeps.refl [] w1).alloc _) (by simp)) hlt).mono ?_
    rintro e w2 ⟨rfl, hT2, hk2⟩
    have hnew2 : w2.heap[w1.heap.size]? = some (.cells #[.int .u8 34] 5 (0, 0)) := by rw [hk2.block _ (by simp) (by simp; omega)]; exact hnew
    have hR2 := hR1.keeps (ha.trans hk2) (by simpa using hne)
    have c2 := hR2.cell0
    go_wp2_with fail
    refine (hpass.out _ _ hT2 hnew2 (by omega)).mono ?_
    rintro e w3 ⟨rfl, hT3, hk3⟩
    have hR3 := hR2.keeps hk3 (by simpa using hne)
    have c3 := hR3.cell0
    go_wp2_with fail
    refine (oneN b s m _ hT3 (by omega)).mono ?_
    rintro e w4 ⟨rfl, hT4, hk4⟩
    go_wp2_with fail
    exact ⟨rfl, .inr ⟨by omega, rfl, _, hT4⟩, (hk1.to (by simp)).trans (((ha.trans hk2).trans hk3).trans (hk4.to (by simp)))⟩

set_option maxHeartbeats 1000000 in
theorem value_39 (r b : Nat) (rawv outv : Value) (s : ByteArray) (k : Nat) (w : World) (hs : s.size ≤ 3000) (hR : IsReader w r b rawv outv) (hT : IsText w b s k) (hlt : k < s.size) (hq : byteAt s k = 39)
    (m : Nat) (L : List UInt8) (hL : (s.data.toList.drop (k + 1)).takeWhile (· != 39) = L) (hm : m = k + 1 + L.length) :
    Calls Tryz.prog 108 #[.pointer (some ⟨r, 0, none⟩)] w fun e w' =>
      ((m < s.size ∧ e = .returned (.string ⟨L.toArray⟩) ∧ IsText w' b s (m + 1)) ∨ (s.size ≤ m ∧ e = .panicked gave ∧ ∃ j, IsText w' b s j)) ∧ Keeps [b] w w' := by
  have hne := hR.ne hT
  have c0 := hR.cell0
  have hmf : ∀ (fn : Fn) (first cap : Array Value) (w : World), (Instr.makeFunc fn first cap).run Tryz.prog w = .ok (.func fn first cap) w := fun _ _ _ _ => rfl
  have hpass := hide (fun (w : World) (p : Nat) (hT : IsText w b s (k + 1)) (hp : w.heap[p]? = some (.cells #[.int .u8 39] 5 (0, 0))) (hne : p ≠ b) =>
    pass_any 116 #[.pointer (some ⟨p, 0, none⟩)] (· != 39) b s (k + 1) w hs hT (by omega) enters116 fun c w1 hk => (quote_any c 39 ⟨p, 0, none⟩ w1 (cell_of_one (by rw [hk.block p (lt_of_block hp) (by simpa using hne)]; exact hp))).mono fun _ _ ⟨he, hw⟩ => ⟨he, 0, hw⟩)
  have hstr : s.extract (k + 1) (k + 1 + passLen (· != 39) (s.data.toList.drop (k + 1))) = ⟨L.toArray⟩ := by rw [pass_str, hL]
  have hlen : k + 1 + passLen (· != 39) (s.data.toList.drop (k + 1)) = m := by rw [hm, ← hL]; rfl
  rw [hstr, hlen] at hpass
  clear hstr hlen hL
  have hml : k + 1 ≤ m := by omega
  clear hm
  by_cases hm2 : m < s.size
  · go_enter Tryz.func108, Tryz.ntmps108
    go_wp2_with fail
    refine (peekY b s k _ hT hlt).mono ?_
    rw [hq]
    rintro e w1 ⟨rfl, hT1, hk1⟩
    have hR1 := hR.keeps hk1 (by simp)
    have hz1 := hR1.lt
    have ca : ∀ o, (w1.alloc o).cell? ⟨r, 0, none⟩ = some (.pointer (some ⟨b, 0, none⟩)) := fun o => (cell_past (a := ⟨r, 0, none⟩) hz1 o).trans hR1.cell0
    go_wp2_with fail
    have hnew := heap_alloc_new w1 (.cells #[.int .u8 39] 5)
    have hb1 := hT1.lt
    have ha : Keeps [b] w1 (w1.alloc (.cells #[.int .u8 39] 5)) := (Keeps.refl [b] w1).alloc _
    refine (one_yes b s k _ hs (hT1.keeps ((Keeps.refl [] w1).alloc _) (by simp)) hlt).mono ?_
    rintro e w2 ⟨rfl, hT2, hk2⟩
    have hnew2 : w2.heap[w1.heap.size]? = some (.cells #[.int .u8 39] 5 (0, 0)) := by rw [hk2.block _ (by simp) (by simp; omega)]; exact hnew
    have hR2 := hR1.keeps (ha.trans hk2) (by simpa using hne)
    have c2 := hR2.cell0
    go_wp2_with fail
    refine (hpass.out _ _ hT2 hnew2 (by omega)).mono ?_
    rintro e w3 ⟨rfl, hT3, hk3⟩
    have hR3 := hR2.keeps hk3 (by simpa using hne)
    have c3 := hR3.cell0
    go_wp2_with fail
    refine (one_yes b s m _ hs hT3 hm2).mono ?_
    rintro e w4 ⟨rfl, hT4, hk4⟩
    go_wp2_with fail
    go_ret
    exact ⟨.inl ⟨hm2, rfl, hT4⟩, (hk1.to (by simp)).trans (((ha.trans hk2).trans hk3).trans hk4)⟩
  · go_enter Tryz.func108, Tryz.ntmps108
    go_wp2_with fail
    refine (peekY b s k _ hT hlt).mono ?_
    rw [hq]
    rintro e w1 ⟨rfl, hT1, hk1⟩
    have hR1 := hR.keeps hk1 (by simp)
    have hz1 := hR1.lt
    have ca : ∀ o, (w1.alloc o).cell? ⟨r, 0, none⟩ = some (.pointer (some ⟨b, 0, none⟩)) := fun o => (cell_past (a := ⟨r, 0, none⟩) hz1 o).trans hR1.cell0
    go_wp2_with fail
    have hnew := heap_alloc_new w1 (.cells #[.int .u8 39] 5)
    have hb1 := hT1.lt
    have ha : Keeps [b] w1 (w1.alloc (.cells #[.int .u8 39] 5)) := (Keeps.refl [b] w1).alloc _
    refine (one_yes b s k _ hs (hT1.keeps ((Keeps.refl [] w1).alloc _) (by simp)) hlt).mono ?_
    rintro e w2 ⟨rfl, hT2, hk2⟩
    have hnew2 : w2.heap[w1.heap.size]? = some (.cells #[.int .u8 39] 5 (0, 0)) := by rw [hk2.block _ (by simp) (by simp; omega)]; exact hnew
    have hR2 := hR1.keeps (ha.trans hk2) (by simpa using hne)
    have c2 := hR2.cell0
    go_wp2_with fail
    refine (hpass.out _ _ hT2 hnew2 (by omega)).mono ?_
    rintro e w3 ⟨rfl, hT3, hk3⟩
    have hR3 := hR2.keeps hk3 (by simpa using hne)
    have c3 := hR3.cell0
    go_wp2_with fail
    refine (oneN b s m _ hT3 (by omega)).mono ?_
    rintro e w4 ⟨rfl, hT4, hk4⟩
    go_wp2_with fail
    exact ⟨rfl, .inr ⟨by omega, rfl, _, hT4⟩, (hk1.to (by simp)).trans (((ha.trans hk2).trans hk3).trans (hk4.to (by simp)))⟩

theorem value_any (r b : Nat) (rawv outv : Value) (s : ByteArray) (k : Nat) (w : World) (hs : s.size ≤ 3000) (hR : IsReader w r b rawv outv) (hT : IsText w b s k) :
    Calls Tryz.prog 108 #[.pointer (some ⟨r, 0, none⟩)] w fun e w' =>
      ((∃ v c, valL (s.data.toList.drop k) = some (v, c) ∧ e = .returned (.string ⟨v.toArray⟩) ∧ IsText w' b s (k + c)) ∨ (valL (s.data.toList.drop k) = none ∧ e = .panicked gave ∧ ∃ j, IsText w' b s j)) ∧ Keeps [b] w w' := by
  have hl := len_size s
  by_cases hlt : k < s.size
  · have hv : ∀ q, byteAt s k = q → (q = 34 ∨ q = 39) → valL (s.data.toList.drop k) = if k + 1 + ((s.data.toList.drop (k + 1)).takeWhile (· != q)).length < s.size then some ((s.data.toList.drop (k + 1)).takeWhile (· != q), ((s.data.toList.drop (k + 1)).takeWhile (· != q)).length + 2) else none := by
      intro q hq hqq
      rw [drop_byteAt s k hlt, valL, hq, if_pos hqq, List.length_drop]
      split
      · rw [if_pos (by omega)]
      · rw [if_neg (by omega)]
    by_cases h34 : byteAt s k = 34
    · have e1 := hv 34 h34 (.inl rfl)
      refine (value_34 r b rawv outv s k w hs hR hT hlt h34 _ _ rfl rfl).mono fun e w' h => ⟨?_, h.2⟩
      rcases h.1 with ⟨h1, he, hT'⟩ | ⟨h1, he, hT'⟩
      · exact .inl ⟨_, _, e1.trans (if_pos h1), he, hT'.at (by omega)⟩
      · exact .inr ⟨e1.trans (if_neg (by omega)), he, hT'⟩
    · by_cases h39 : byteAt s k = 39
      · have e1 := hv 39 h39 (.inr rfl)
        refine (value_39 r b rawv outv s k w hs hR hT hlt h39 _ _ rfl rfl).mono fun e w' h => ⟨?_, h.2⟩
        rcases h.1 with ⟨h1, he, hT'⟩ | ⟨h1, he, hT'⟩
        · exact .inl ⟨_, _, e1.trans (if_pos h1), he, hT'.at (by omega)⟩
        · exact .inr ⟨e1.trans (if_neg (by omega)), he, hT'⟩
      · refine (value_plain r b rawv outv s k w hs hR hT hlt h34 h39).mono fun e w' h => ⟨.inl ⟨_, _, ?_, h.1, h.2.1⟩, h.2.2⟩
        rw [drop_byteAt s k hlt, valL, if_neg (by simp [h34, h39])]
  · have hnil : s.data.toList.drop k = [] := List.drop_eq_nil_of_le (by omega)
    have c0 := hR.cell0
    rw [hnil, show valL [] = none from rfl]
    go_enter Tryz.func108, Tryz.ntmps108
    go_wp2_with fail
    refine (peekN b s k _ hT (by omega)).mono ?_
    rintro e w1 ⟨rfl, hT1, hk1⟩
    go_wp2_with fail
    exact ⟨rfl, .inr ⟨trivial, rfl, _, hT1⟩, hk1.to (by simp)⟩
end Go.Proofs.YtngojdajamgababGreat

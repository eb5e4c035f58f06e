/- A scheme at the head of a text, and what stands up to one of some bytes. -/
import Derived.Test.YtaeblkmkpfklkacBuilder2
import Derived.Test.YtaeblkmkpfklkacUrlMath
import Derived.Test.YtaeblkmkpfklkacShelfByte
namespace Go.Proofs.Ytaeblkmkpfklkac
open Go.RowKit

theorem enters36 : Enters 36 := enters_of Try.func36 (by kernel_rfl) (by kernel_rfl)
theorem enters43 : Enters 43 := enters_of Try.func43 (by kernel_rfl) (by kernel_rfl)
theorem enters47 : Enters 47 := enters_of Try.func47 (by kernel_rfl) (by kernel_rfl)
theorem enters20 : Enters 20 := enters_of Try.func20 (by kernel_rfl) (by kernel_rfl)

set_option maxHeartbeats 1000000 in
theorem schB_any (c : UInt8) (w : World) : Calls Try.prog 43 #[.int .u8 c.toNat] w fun e w' => e = .returned (.bool (schB c)) ∧ w' = w := by
  have hl := hide (fun w => letter_any c w)
  have hd := hide (fun w => dig_any c w)
  have e1 : (c == 43) = ((c.toNat : Int) == 43) := beq_at rfl
  have e2 : (c == 45) = ((c.toNat : Int) == 45) := beq_at rfl
  have e3 : (c == 46) = ((c.toNat : Int) == 46) := beq_at rfl
  unfold schB
  rw [e1, e2, e3]
  clear e1 e2 e3
  generalize letterB c = a at *
  generalize digB c = b at *
  generalize c.toNat = n at *
  cases a <;> cases b <;> cases h1 : ((n : Int) == 43) <;> cases h2 : ((n : Int) == 45) <;> cases h3 : ((n : Int) == 46)
  all_goals
    go_enter Try.func43, Try.ntmps43
    go_wp2_with (first | (go_at_call 36; refine (hl.out _).mono ?_; rintro e w' ⟨rfl, rfl⟩) | (go_at_call 44; refine (hd.out _).mono ?_; rintro e w' ⟨rfl, rfl⟩))
    go_ret
    exact ⟨rfl, rfl⟩

theorem schemeL_none_end {l : List UInt8} (h : l.length ≤ (l.takeWhile schB).length) : schemeL l = none := by
  unfold schemeL
  rw [if_neg]
  rintro ⟨_, _, h3⟩
  rw [List.drop_eq_nil_of_le h] at h3
  simp at h3

set_option maxRecDepth 4000 in
set_option maxHeartbeats 1000000 in
theorem scheme_any (b : Nat) (s : ByteArray) (w : World) (hs : s.size ≤ 3000) (hT : IsText w b s 0) :
    Calls Try.prog 21 #[.pointer (some ⟨b, 0, none⟩)] w fun e w' =>
      ((∃ n, schemeL s.data.toList = some n ∧ e = .returned (.string ⟨n.toArray⟩) ∧ IsText w' b s (n.length + 1)) ∨ (schemeL s.data.toList = none ∧ e = .panicked gave ∧ ∃ j, IsText w' b s j)) ∧ Keeps [b] w w' := by
  have hp := hide (pass_of 43 schB enters43 schB_any b s 0 w hs hT (Nat.zero_le _))
  rw [List.drop_zero, Nat.zero_add] at hp
  have hle := takeWhile_le schB s 0 (Nat.zero_le _)
  rw [List.drop_zero, Nat.zero_add] at hle
  obtain ⟨n, hn⟩ : ∃ n, s.data.toList.takeWhile schB = n := ⟨_, rfl⟩
  have hend : Hid (s.size ≤ n.length → schemeL s.data.toList = none) := fun h => schemeL_none_end (by rw [hn, len_size]; exact h)
  have hget : Hid (∀ h : n.length < s.size, schemeL s.data.toList = if n ≠ [] ∧ letterB (n.getD 0 0) = true ∧ byteAt s n.length = 58 then some n else none) := by
    intro h
    unfold schemeL
    rw [hn, List.head?_drop, List.getElem?_eq_getElem (by rw [len_size]; exact h), byteAt_eq s _ h]
    have : s.data.toList[n.length]'(by rw [len_size]; exact h) = s[n.length] := rfl
    rw [this]
    simp
  rw [hn] at hp hle
  clear hn
  by_cases hlt : n.length < s.size
  · have hg := hide (hget.out hlt)
    clear hend hget
    have hl0 := hide (fun w => letter_any (n.getD 0 0) w)
    have hbb : (byteAt s n.length = 58) ↔ (((byteAt s n.length).toNat : Int) != 58) = false := by
      rw [show ((58 : Int)) = (((58 : UInt8).toNat : Nat) : Int) from rfl, byte_bne]
      simp
    cases hc : (((byteAt s n.length).toNat : Int) != 58)
    · cases n with
      | nil =>
        have hnone : Hid (schemeL s.data.toList = none) := hg.out.trans (if_neg (by simp))
        clear hg hbb
        have h1 := hide (fun (w : World) hT => one_yes b s 0 w hs hT hlt)
        simp only [List.length_nil] at hc
        go_enter Try.func21, Try.ntmps21
        go_wp2_with fail
        refine hp.out.mono ?_
        rintro e w1 ⟨rfl, hT1, hk1⟩
        go_wp2_with fail
        refine (h1.out _ hT1).mono ?_
        rintro e w2 ⟨rfl, hT2, hk2⟩
        go_wp2_with fail
        refine (giveUp_any _).mono ?_
        rintro e w3 ⟨rfl, rfl⟩
        go_wp2_with fail
        exact ⟨rfl, .inr ⟨hnone.out, rfl, _, hT2⟩, hk1.trans hk2⟩
      | cons d m =>
        have e0 : (d :: m).getD 0 0 = d := rfl
        rw [e0] at hl0 hg
        have hsz : (⟨(d :: m).toArray⟩ : ByteArray).size = m.length + 1 := rfl
        have hix : (⟨(d :: m).toArray⟩ : ByteArray)[0]'(by rw [hsz]; omega) = d := rfl
        have hem : ((⟨(d :: m).toArray⟩ : ByteArray).toList.isEmpty) = false := by rw [ByteArray.toList_eq]; rfl
        have hlz : Hid (letterB d = false → schemeL s.data.toList = none) := fun h => hg.out.trans (if_neg (by simp [h]))
        have hly : Hid (letterB d = true → schemeL s.data.toList = some (d :: m)) := fun h => hg.out.trans (if_pos ⟨by simp, h, hbb.2 hc⟩)
        clear hg hbb
        have h1 := hide (fun (w : World) hT => one_yes b s (d :: m).length w hs hT hlt)
        generalize letterB d = a at *
        generalize hlen : (d :: m).length = len at *
        generalize hstr : (⟨(d :: m).toArray⟩ : ByteArray) = str at *
        have HLEN := hide hlen
        have HSTR := hide hstr
        clear hlen hstr
        cases a
        · go_enter Try.func21, Try.ntmps21
          go_wp2_with fail
          refine hp.out.mono ?_
          rintro e w1 ⟨rfl, hT1, hk1⟩
          go_wp2_with fail
          refine (h1.out _ hT1).mono ?_
          rintro e w2 ⟨rfl, hT2, hk2⟩
          go_wp2_with fail
          refine (hl0.out _).mono ?_
          rintro e w3 ⟨rfl, rfl⟩
          go_wp2_with fail
          refine (giveUp_any _).mono ?_
          rintro e w4 ⟨rfl, rfl⟩
          go_wp2_with fail
          exact ⟨rfl, .inr ⟨hlz.out trivial, rfl, _, hT2⟩, hk1.trans hk2⟩
        · go_enter Try.func21, Try.ntmps21
          go_wp2_with fail
          refine hp.out.mono ?_
          rintro e w1 ⟨rfl, hT1, hk1⟩
          go_wp2_with fail
          refine (h1.out _ hT1).mono ?_
          rintro e w2 ⟨rfl, hT2, hk2⟩
          go_wp2_with fail
          refine (hl0.out _).mono ?_
          rintro e w3 ⟨rfl, rfl⟩
          go_wp2_with fail
          go_ret
          exact ⟨.inl ⟨_, hly.out trivial, by rw [← HSTR.out]; simp, by rw [HLEN.out]; exact hT2⟩, hk1.trans hk2⟩
    · have hnone : Hid (schemeL s.data.toList = none) := hg.out.trans (if_neg (fun h => by rw [hbb.1 h.2.2] at hc; simp at hc))
      clear hg hbb
      have h1 := hide (fun (w : World) hT => one_yes b s n.length w hs hT hlt)
      generalize n.length = len at *
      go_enter Try.func21, Try.ntmps21
      go_wp2_with fail
      refine hp.out.mono ?_
      rintro e w1 ⟨rfl, hT1, hk1⟩
      go_wp2_with fail
      refine (h1.out _ hT1).mono ?_
      rintro e w2 ⟨rfl, hT2, hk2⟩
      go_wp2_with fail
      refine (giveUp_any _).mono ?_
      rintro e w3 ⟨rfl, rfl⟩
      go_wp2_with fail
      exact ⟨rfl, .inr ⟨hnone.out, rfl, _, hT2⟩, hk1.trans hk2⟩
  · have hnone := hide (hend.out (by omega))
    clear hend hget
    have h1 := hide (fun (w : World) hT => one_no b s n.length w hT (by omega))
    generalize n.length = len at *
    go_enter Try.func21, Try.ntmps21
    go_wp2_with fail
    refine hp.out.mono ?_
    rintro e w1 ⟨rfl, hT1, hk1⟩
    go_wp2_with fail
    refine (h1.out _ hT1).mono ?_
    rintro e w2 ⟨rfl, m, rfl⟩
    go_wp2_with fail
    exact ⟨rfl, .inr ⟨hnone.out, rfl, _, hT1⟩, hk1.drewN _⟩

/-- A cell that holds a text. -/
def IsStr (w : World) (p : Nat) (x : ByteArray) : Prop := w.heap[p]? = some (.cells #[.string x] 9 (0, 0))
theorem IsStr.lt {w : World} {p : Nat} {x : ByteArray} (h : IsStr w p x) : p < w.heap.size := lt_of_block h
theorem IsStr.keeps {S : List Nat} {w w' : World} {p : Nat} {x : ByteArray} (h : IsStr w p x) (hk : Keeps S w w') (hp : p ∉ S) : IsStr w' p x := by
  rw [IsStr, hk.block p h.lt hp]; exact h
theorem IsStr.cell {w : World} {p : Nat} {x : ByteArray} (h : IsStr w p x) : w.cell? ⟨p, 0, none⟩ = some (.string x) := cell_of_one h

theorem byte_back (c : UInt8) : ((c.toNat : Int).toNat.toUInt8) = c := by simp

set_option maxHeartbeats 400000 in
theorem inEnds_any (p : Nat) (ends : ByteArray) (c : UInt8) (w : World) (h : IsStr w p ends) :
    Calls Try.prog 47 #[.int .u8 c.toNat, .pointer (some ⟨p, 0, none⟩)] w fun e w' => e = .returned (.bool (decide (Lib.indexByte ends.data.toList c < 0))) ∧ w' = w := by
  have c0 := h.cell
  have hi := hide (fun w => Try.strings_IndexByte ends (c.toNat : Int) w)
  rw [byte_back] at hi
  generalize Lib.indexByte ends.data.toList c = r at *
  go_enter Try.func47, Try.ntmps47
  go_wp2_with (go_at_call 48; refine (hi.out _).mono ?_; rintro e w' ⟨rfl, rfl⟩)
  go_ret
  exact ⟨by simp, rfl⟩

set_option maxHeartbeats 400000 in
theorem passUpTo_any (b : Nat) (s : ByteArray) (k : Nat) (ends : ByteArray) (f : UInt8 → Bool) (hf : ∀ c, decide (Lib.indexByte ends.data.toList c < 0) = f c) (w : World) (hs : s.size ≤ 3000) (hT : IsText w b s k) (hk : k ≤ s.size) :
    Calls Try.prog 24 #[.pointer (some ⟨b, 0, none⟩), .string ends] w fun e w' =>
      e = .returned (.string ⟨((s.data.toList.drop k).takeWhile f).toArray⟩) ∧ IsText w' b s (k + ((s.data.toList.drop k).takeWhile f).length) ∧ Keeps [b] w w' := by
  have hka : Keeps [] w (w.alloc (.cells #[.string ends] 9)) := (Keeps.refl [] w).alloc _
  have hS : IsStr (w.alloc (.cells #[.string ends] 9)) w.heap.size ends := heap_alloc_new _ _
  have hmf : ∀ (fn : Fn) (first cap : Array Value) (w : World), (Instr.makeFunc fn first cap).run Try.prog w = .ok (.func fn first cap) w := fun _ _ _ _ => rfl
  have hp := hide (pass_any 47 #[.pointer (some ⟨w.heap.size, 0, none⟩)] f b s k (w.alloc (.cells #[.string ends] 9)) hs (hT.keeps hka (by simp)) hk enters47 fun c w1 hk1 =>
    (inEnds_any w.heap.size ends c w1 (hS.keeps hk1 (by have := hT.lt; simp; omega))).mono fun e w' ⟨he, hw⟩ => ⟨by rw [he, hf], 0, hw⟩)
  rw [pass_str] at hp
  clear hS hf
  go_enter Try.func24, Try.ntmps24
  go_wp2_with fail
  refine hp.out.mono ?_
  rintro e w1 ⟨rfl, hT1, hk1⟩
  go_wp2_with fail
  go_ret
  exact ⟨rfl, hT1, (hka.mono (T := [b]) (by simp)).trans hk1⟩

theorem ends1 : ∀ c : UInt8, decide (Lib.indexByte (⟨#[47, 63, 35]⟩ : ByteArray).data.toList c < 0) = authB c := all_bytes (by decide +kernel)
theorem ends2 : ∀ c : UInt8, decide (Lib.indexByte (⟨#[63, 35]⟩ : ByteArray).data.toList c < 0) = pathB c := all_bytes (by decide +kernel)
theorem ends3 : ∀ c : UInt8, decide (Lib.indexByte (⟨#[35]⟩ : ByteArray).data.toList c < 0) = queryB c := all_bytes (by decide +kernel)

/-- A link in memory. -/
def urlCells (u : UrlT) : Array Value := #[.string ⟨u.scheme.toArray⟩, .string ⟨u.authority.toArray⟩, .string ⟨u.path.toArray⟩, .string ⟨u.query.toArray⟩, .string ⟨u.fragment.toArray⟩, .bool u.hs, .bool u.ha, .bool u.hq, .bool u.hf]
def urlV (u : UrlT) : Value := .agg (urlCells u)
def IsUrl (w : World) (q : Nat) (u : UrlT) : Prop := w.heap[q]? = some (.cells #[.string ⟨u.scheme.toArray⟩, .string ⟨u.authority.toArray⟩, .string ⟨u.path.toArray⟩, .string ⟨u.query.toArray⟩, .string ⟨u.fragment.toArray⟩, .bool u.hs, .bool u.ha, .bool u.hq, .bool u.hf] 23 (0, 0))
theorem IsUrl.lt {w : World} {q : Nat} {u : UrlT} (h : IsUrl w q u) : q < w.heap.size := lt_of_block h
theorem IsUrl.keeps {S : List Nat} {w w' : World} {q : Nat} {u : UrlT} (h : IsUrl w q u) (hk : Keeps S w w') (hq : q ∉ S) : IsUrl w' q u := by
  rw [IsUrl, hk.block q h.lt hq]; exact h
theorem IsUrl.free {w : World} {q : Nat} {u : UrlT} (h : IsUrl w q u) (j : Nat) : w.frozen? ⟨q, j, none⟩ = false := by
  simp [World.frozen?, IsUrl] at h ⊢; simp [h]
theorem IsUrl.cell {w : World} {q : Nat} {u : UrlT} (h : IsUrl w q u) (j : Nat) : w.cell? ⟨q, j, none⟩ = (urlCells u)[j]? := by
  simp [World.cell?, IsUrl, urlCells] at h ⊢; simp [h]
theorem IsUrl.set0 {w : World} {q : Nat} {u : UrlT} (h : IsUrl w q u) (x : List UInt8) : IsUrl (w.setCell ⟨q, 0, none⟩ (.string ⟨x.toArray⟩)) q { u with scheme := x } := by
  simp [World.setCell, IsUrl, Array.getElem?_modify] at h ⊢; simp [h]
theorem IsUrl.set1 {w : World} {q : Nat} {u : UrlT} (h : IsUrl w q u) (x : List UInt8) : IsUrl (w.setCell ⟨q, 1, none⟩ (.string ⟨x.toArray⟩)) q { u with authority := x } := by
  simp [World.setCell, IsUrl, Array.getElem?_modify] at h ⊢; simp [h]
theorem IsUrl.set2 {w : World} {q : Nat} {u : UrlT} (h : IsUrl w q u) (x : List UInt8) : IsUrl (w.setCell ⟨q, 2, none⟩ (.string ⟨x.toArray⟩)) q { u with path := x } := by
  simp [World.setCell, IsUrl, Array.getElem?_modify] at h ⊢; simp [h]
theorem IsUrl.set3 {w : World} {q : Nat} {u : UrlT} (h : IsUrl w q u) (x : List UInt8) : IsUrl (w.setCell ⟨q, 3, none⟩ (.string ⟨x.toArray⟩)) q { u with query := x } := by
  simp [World.setCell, IsUrl, Array.getElem?_modify] at h ⊢; simp [h]
theorem IsUrl.set4 {w : World} {q : Nat} {u : UrlT} (h : IsUrl w q u) (x : List UInt8) : IsUrl (w.setCell ⟨q, 4, none⟩ (.string ⟨x.toArray⟩)) q { u with fragment := x } := by
  simp [World.setCell, IsUrl, Array.getElem?_modify] at h ⊢; simp [h]
theorem IsUrl.set5 {w : World} {q : Nat} {u : UrlT} (h : IsUrl w q u) (x : Bool) : IsUrl (w.setCell ⟨q, 5, none⟩ (.bool x)) q { u with hs := x } := by
  simp [World.setCell, IsUrl, Array.getElem?_modify] at h ⊢; simp [h]
theorem IsUrl.set6 {w : World} {q : Nat} {u : UrlT} (h : IsUrl w q u) (x : Bool) : IsUrl (w.setCell ⟨q, 6, none⟩ (.bool x)) q { u with ha := x } := by
  simp [World.setCell, IsUrl, Array.getElem?_modify] at h ⊢; simp [h]
theorem IsUrl.set7 {w : World} {q : Nat} {u : UrlT} (h : IsUrl w q u) (x : Bool) : IsUrl (w.setCell ⟨q, 7, none⟩ (.bool x)) q { u with hq := x } := by
  simp [World.setCell, IsUrl, Array.getElem?_modify] at h ⊢; simp [h]
theorem IsUrl.set8 {w : World} {q : Nat} {u : UrlT} (h : IsUrl w q u) (x : Bool) : IsUrl (w.setCell ⟨q, 8, none⟩ (.bool x)) q { u with hf := x } := by
  simp [World.setCell, IsUrl, Array.getElem?_modify] at h ⊢; simp [h]

/-- A cell that holds the text that is read. -/
def IsPtr (w : World) (p b : Nat) : Prop := w.heap[p]? = some (.cells #[.pointer (some ⟨b, 0, none⟩)] 42 (0, 0))
theorem IsPtr.lt {w : World} {p b : Nat} (h : IsPtr w p b) : p < w.heap.size := lt_of_block h
theorem IsPtr.keeps {S : List Nat} {w w' : World} {p b : Nat} (h : IsPtr w p b) (hk : Keeps S w w') (hp : p ∉ S) : IsPtr w' p b := by
  rw [IsPtr, hk.block p h.lt hp]; exact h
theorem IsPtr.cell {w : World} {p b : Nat} (h : IsPtr w p b) : w.cell? ⟨p, 0, none⟩ = some (.pointer (some ⟨b, 0, none⟩)) := cell_of_one h

set_option maxHeartbeats 400000 in
/-- What Split tries: the scheme. -/
theorem tryScheme_any (p q b : Nat) (u : UrlT) (s : ByteArray) (w : World) (hs : s.size ≤ 3000) (hP : IsPtr w p b) (hU : IsUrl w q u) (hT : IsText w b s 0) (hqb : q ≠ b) :
    Calls Try.prog 20 #[.pointer (some ⟨p, 0, none⟩), .pointer (some ⟨q, 0, none⟩)] w fun e w' =>
      (e = .returned (.tuple #[]) ∧ (∃ n, schemeL s.data.toList = some n ∧ IsText w' b s (n.length + 1) ∧ IsUrl w' q { u with scheme := n }) ∨
        e = .panicked gave ∧ (schemeL s.data.toList = none ∧ IsUrl w' q u) ∧ ∃ j, IsText w' b s j) ∧ Keeps [b, q] w w' := by
  have c0 := hP.cell
  have hsc := hide (fun (w : World) hT => scheme_any b s w hs hT)
  go_enter Try.func20, Try.ntmps20
  go_wp2_with fail
  refine (hsc.out _ hT).mono ?_
  rintro e w1 ⟨⟨n, hn, rfl, hT1⟩ | ⟨hn, rfl, j, hT1⟩, hk1⟩
  · have hU1 := hU.keeps hk1 (by simpa using hqb)
    have f0 := hU1.free 0
    have d0 : w1.cell? ⟨q, 0, none⟩ = some (.string ⟨u.scheme.toArray⟩) := hU1.cell 0
    go_wp2_with fail
    go_end0
    refine ⟨.inl ⟨rfl, n, hn, ?_, hU1.set0 n⟩, ?_⟩
    · exact hT1.keeps (((Keeps.refl [q] w1).setCell (p := ⟨q, 0, none⟩) (by simp) _)) (by simpa using hqb.symm)
    · exact (hk1.mono (T := [b, q]) (by simp)).setCell (by simp) _
  · have hU1 := hU.keeps hk1 (by simpa using hqb)
    go_wp2_with fail
    exact ⟨rfl, .inr ⟨rfl, ⟨hn, hU1⟩, j, hT1⟩, hk1.mono (by simp)⟩
end Go.Proofs.Ytaeblkmkpfklkac

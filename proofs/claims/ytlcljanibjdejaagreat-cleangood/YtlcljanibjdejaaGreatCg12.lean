/- CleanGood holds: for every input the law returns true, and each argument reads behind the call as it read before; no condition. A part of its proof. -/
import Derived.Test.YtlcljanibjdejaaGreatCg11
import Derived.Deep.MidRow
namespace Go.Proofs.YtlcljanibjdejaaGreat
open Go.RowKit
theorem enters284 : Enters 284 := enters_of Tryz.func284 (by kernel_rfl) (by kernel_rfl)
theorem enters286 : Enters 286 := enters_of Tryz.func286 (by kernel_rfl) (by kernel_rfl)
theorem enters215 : Enters 215 := enters_of Tryz.func215 (by kernel_rfl) (by kernel_rfl)
set_option maxHeartbeats 1000000 in
theorem schB_any (c : UInt8) (w : World) : Calls Tryz.prog 284 #[.int .u8 c.toNat] w fun e w' => e = .returned (.bool (schB c)) ∧ w' = w := by
  have hl := hide (fun w => letter_any c w)
  have hd := hide (fun w => dig_any c w)
  have e1 : (c == 43) = ((c.toNat : Int) == 43) := beq_at rfl
  have e2 : (c == 45) = ((c.toNat : Int) == 45) := beq_at rfl
  have e3 : (c == 46) = ((c.toNat : Int) == 46) := beq_at rfl
  unfold schB
  rw [e1, e2, e3]
  clear e1 e2 e3
  generalize letterB c = a at *
  generalize digB c = b at *
  generalize c.toNat = n at *
  cases a <;> cases b <;> cases h1 : ((n : Int) == 43) <;> cases h2 : ((n : Int) == 45) <;> cases h3 : ((n : Int) == 46)
  all_goals
    go_enter Tryz.func284, Tryz.ntmps284
    go_wp2_with (first | (go_at_call 224; refine (hl.out _).mono ?_; rintro e w' ⟨rfl, rfl⟩) | (go_at_call 285; refine (hd.out _).mono ?_; rintro e w' ⟨rfl, rfl⟩))
    go_ret
    exact ⟨rfl, rfl⟩
theorem schemeL_none_end {l : List UInt8} (h : l.length ≤ (l.takeWhile schB).length) : schemeL l = none := by
  unfold schemeL
  rw [if_neg]
  rintro ⟨_, _, h3⟩
  rw [List.drop_eq_nil_of_le h] at h3
  simp at h3
set_option maxRecDepth 4000 in
set_option maxHeartbeats 1000000 in
theorem scheme_any (b : Nat) (s : ByteArray) (w : World) (hs : s.size ≤ 3000) (hT : IsText w b s 0) :
    Calls Tryz.prog 216 #[.pointer (some ⟨b, 0, none⟩)] w fun e w' =>
      ((∃ n, schemeL s.data.toList = some n ∧ e = .returned (.string ⟨n.toArray⟩) ∧ IsText w' b s (n.length + 1)) ∨ (schemeL s.data.toList = none ∧ e = .panicked gave ∧ ∃ j, IsText w' b s j)) ∧ Keeps [b] w w' := by
  have hp := hide (pass_of 284 schB enters284 schB_any b s 0 w hs hT (Nat.zero_le _))
  rw [List.drop_zero, Nat.zero_add] at hp
  have hle := takeWhile_le schB s 0 (Nat.zero_le _)
  rw [List.drop_zero, Nat.zero_add] at hle
  obtain ⟨n, hn⟩ : ∃ n, s.data.toList.takeWhile schB = n := ⟨_, rfl⟩
  have hend : Hid (s.size ≤ n.length → schemeL s.data.toList = none) := fun h => schemeL_none_end (by rw [hn, len_size]; exact h)
  have hget : Hid (∀ h : n.length < s.size, schemeL s.data.toList = if n ≠ [] ∧ letterB (n.getD 0 0) = true ∧ byteAt s n.length = 58 then some n else none) := by
    intro h
    unfold schemeL
    rw [hn, List.head?_drop, List.getElem?_eq_getElem (by rw [len_size]; exact h), byteAt_eq s _ h]
    have : s.data.toList[n.length]'(by rw [len_size]; exact h) = s[n.length] := rfl
    rw [this]
    simp
  rw [hn] at hp hle
  clear hn
  by_cases hlt : n.length < s.size
  · have hg := hide (hget.out hlt)
    clear hend hget
    have hl0 := hide (fun w => letter_any (n.getD 0 0) w)
    have hbb : (byteAt s n.length = 58) ↔ (((byteAt s n.length).toNat : Int) != 58) = false := by
      rw [show ((58 : Int)) = (((58 : UInt8).toNat : Nat) : Int) from rfl, byte_bne]
      simp
    cases hc : (((byteAt s n.length).toNat : Int) != 58)
    · cases n with
      | nil =>
        have hnone : Hid (schemeL s.data.toList = none) := hg.out.trans (if_neg (by simp))
        clear hg hbb
        have h1 := hide (fun (w : World) hT => one_yes b s 0 w hs hT hlt)
        simp only [List.length_nil] at hc
        go_enter Tryz.func216, Tryz.ntmps216
        go_wp2_with fail
        refine hp.out.mono ?_
        rintro e w1 ⟨rfl, hT1, hk1⟩
        go_wp2_with fail
        refine (h1.out _ hT1).mono ?_
        rintro e w2 ⟨rfl, hT2, hk2⟩
        go_wp2_with fail
        refine (giveUp_any _).mono ?_
        rintro e w3 ⟨rfl, rfl⟩
        go_wp2_with fail
        exact ⟨rfl, .inr ⟨hnone.out, rfl, _, hT2⟩, hk1.trans hk2⟩
      | cons d m =>
        have e0 : (d :: m).getD 0 0 = d := rfl
        rw [e0] at hl0 hg
        have hsz : (⟨(d :: m).toArray⟩ : ByteArray).size = m.length + 1 := rfl
        have hix : (⟨(d :: m).toArray⟩ : ByteArray)[0]'(by rw [hsz]; omega) = d := rfl
        have hem : ((⟨(d :: m).toArray⟩ : ByteArray).toList.isEmpty) = false := by rw [ByteArray.toList_eq]; rfl
        have hlz : Hid (letterB d = false → schemeL s.data.toList = none) := fun h => hg.out.trans (if_neg (by simp [h]))
        have hly : Hid (letterB d = true → schemeL s.data.toList = some (d :: m)) := fun h => hg.out.trans (if_pos ⟨by simp, h, hbb.2 hc⟩)
        clear hg hbb
        have h1 := hide (fun (w : World) hT => one_yes b s (d :: m).length w hs hT hlt)
        generalize letterB d = a at *
        generalize hlen : (d :: m).length = len at *
        generalize hstr : (⟨(d :: m).toArray⟩ : ByteArray) = str at *
        have HLEN := hide hlen
        have HSTR := hide hstr
        clear hlen hstr
        cases a
        · go_enter Tryz.func216, Tryz.ntmps216
          go_wp2_with fail
          refine hp.out.mono ?_
          rintro e w1 ⟨rfl, hT1, hk1⟩
          go_wp2_with fail
          refine (h1.out _ hT1).mono ?_
          rintro e w2 ⟨rfl, hT2, hk2⟩
          go_wp2_with fail
          refine (hl0.out _).mono ?_
          rintro e w3 ⟨rfl, rfl⟩
          go_wp2_with fail
          refine (giveUp_any _).mono ?_
          rintro e w4 ⟨rfl, rfl⟩
          go_wp2_with fail
          exact ⟨rfl, .inr ⟨hlz.out trivial, rfl, _, hT2⟩, hk1.trans hk2⟩
        · go_enter Tryz.func216, Tryz.ntmps216
          go_wp2_with fail
          refine hp.out.mono ?_
          rintro e w1 ⟨rfl, hT1, hk1⟩
          go_wp2_with fail
          refine (h1.out _ hT1).mono ?_
          rintro e w2 ⟨rfl, hT2, hk2⟩
          go_wp2_with fail
          refine (hl0.out _).mono ?_
          rintro e w3 ⟨rfl, rfl⟩
          go_wp2_with fail
          go_ret
          exact ⟨.inl ⟨_, hly.out trivial, by rw [← HSTR.out]; simp, by rw [HLEN.out]; exact hT2⟩, hk1.trans hk2⟩
    · have hnone : Hid (schemeL s.data.toList = none) := hg.out.trans (if_neg (fun h => by rw [hbb.1 h.2.2] at hc; simp at hc))
      clear hg hbb
      have h1 := hide (fun (w : World) hT => one_yes b s n.length w hs hT hlt)
      generalize n.length = len at *
      go_enter Tryz.func216, Tryz.ntmps216
      go_wp2_with fail
      refine hp.out.mono ?_
      rintro e w1 ⟨rfl, hT1, hk1⟩
      go_wp2_with fail
      refine (h1.out _ hT1).mono ?_
      rintro e w2 ⟨rfl, hT2, hk2⟩
      go_wp2_with fail
      refine (giveUp_any _).mono ?_
      rintro e w3 ⟨rfl, rfl⟩
      go_wp2_with fail
      exact ⟨rfl, .inr ⟨hnone.out, rfl, _, hT2⟩, hk1.trans hk2⟩
  · have hnone := hide (hend.out (by omega))
    clear hend hget
    have h1 := hide (fun (w : World) hT => one_no b s n.length w hT (by omega))
    generalize n.length = len at *
    go_enter Tryz.func216, Tryz.ntmps216
    go_wp2_with fail
    refine hp.out.mono ?_
    rintro e w1 ⟨rfl, hT1, hk1⟩
    go_wp2_with fail
    refine (h1.out _ hT1).mono ?_
    rintro e w2 ⟨rfl, m, rfl⟩
    go_wp2_with fail
    exact ⟨rfl, .inr ⟨hnone.out, rfl, _, hT1⟩, hk1.drewN _⟩
def IsStr (w : World) (p : Nat) (x : ByteArray) : Prop := w.heap[p]? = some (.cells #[.string x] 9 (0, 0))
theorem IsStr.lt {w : World} {p : Nat} {x : ByteArray} (h : IsStr w p x) : p < w.heap.size := lt_of_block h
theorem IsStr.keeps {S : List Nat} {w w' : World} {p : Nat} {x : ByteArray} (h : IsStr w p x) (hk : Keeps S w w') (hp : p ∉ S) : IsStr w' p x := by
  rw [IsStr, hk.block p h.lt hp]; exact h
theorem IsStr.cell {w : World} {p : Nat} {x : ByteArray} (h : IsStr w p x) : w.cell? ⟨p, 0, none⟩ = some (.string x) := cell_of_one h
theorem byte_back (c : UInt8) : ((c.toNat : Int).toNat.toUInt8) = c := by simp
set_option maxHeartbeats 400000 in
theorem inEnds_any (p : Nat) (ends : ByteArray) (c : UInt8) (w : World) (h : IsStr w p ends) :
    Calls Tryz.prog 286 #[.int .u8 c.toNat, .pointer (some ⟨p, 0, none⟩)] w fun e w' => e = .returned (.bool (decide (Lib.indexByte ends.data.toList c < 0))) ∧ w' = w := by
  have c0 := h.cell
  have hi := hide (fun w => Tryz.strings_IndexByte ends (c.toNat : Int) w)
  rw [byte_back] at hi
  generalize Lib.indexByte ends.data.toList c = r at *
  go_enter Tryz.func286, Tryz.ntmps286
  go_wp2_with (go_at_call 287; refine (hi.out _).mono ?_; rintro e w' ⟨rfl, rfl⟩)
  go_ret
  exact ⟨by simp, rfl⟩
set_option maxHeartbeats 400000 in
theorem passUpTo_any (b : Nat) (s : ByteArray) (k : Nat) (ends : ByteArray) (f : UInt8 → Bool) (hf : ∀ c, decide (Lib.indexByte ends.data.toList c < 0) = f c) (w : World) (hs : s.size ≤ 3000) (hT : IsText w b s k) (hk : k ≤ s.size) :
    Calls Tryz.prog 217 #[.pointer (some ⟨b, 0, none⟩), .string ends] w fun e w' =>
      e = .returned (.string ⟨((s.data.toList.drop k).takeWhile f).toArray⟩) ∧ IsText w' b s (k + ((s.data.toList.drop k).takeWhile f).length) ∧ Keeps [b] w w' := by
  have hka : Keeps [] w (w.alloc (.cells #[.string ends] 9)) := (Keeps.refl [] w).alloc _
  have hS : IsStr (w.alloc (.cells #[.string ends] 9)) w.heap.size ends := heap_alloc_new _ _
  have hmf : ∀ (fn : Fn) (first cap : Array Value) (w : World), (Instr.makeFunc fn first cap).run Tryz.prog w = .ok (.func fn first cap) w := fun _ _ _ _ => rfl
  have hp := hide (pass_any 286 #[.pointer (some ⟨w.heap.size, 0, none⟩)] f b s k (w.alloc (.cells #[.string ends] 9)) hs (hT.keeps hka (by simp)) hk enters286 fun c w1 hk1 =>
    (inEnds_any w.heap.size ends c w1 (hS.keeps hk1 (by have := hT.lt; simp; omega))).mono fun e w' ⟨he, hw⟩ => ⟨by rw [he, hf], 0, hw⟩)
  rw [pass_str] at hp
  clear hS hf
  go_enter Tryz.func217, Tryz.ntmps217
  go_wp2_with fail
  refine hp.out.mono ?_
  rintro e w1 ⟨rfl, hT1, hk1⟩
  go_wp2_with fail
  go_ret
  exact ⟨rfl, hT1, (hka.mono (T := [b]) (by simp)).trans hk1⟩
theorem ends1 : ∀ c : UInt8, decide (Lib.indexByte (⟨#[47, 63, 35]⟩ : ByteArray).data.toList c < 0) = authB c := all_bytes (by decide +kernel)
theorem ends2 : ∀ c : UInt8, decide (Lib.indexByte (⟨#[63, 35]⟩ : ByteArray).data.toList c < 0) = pathB c := all_bytes (by decide +kernel)
theorem ends3 : ∀ c : UInt8, decide (Lib.indexByte (⟨#[35]⟩ : ByteArray).data.toList c < 0) = queryB c := all_bytes (by decide +kernel)
def urlCells (u : UrlT) : Array Value := #[.string ⟨u.scheme.toArray⟩, .string ⟨u.authority.toArray⟩, .string ⟨u.path.toArray⟩, .string ⟨u.query.toArray⟩, .string ⟨u.fragment.toArray⟩, .bool u.hs, .bool u.ha, .bool u.hq, .bool u.hf]
def urlV (u : UrlT) : Value := .agg (urlCells u)
def IsUrl (w : World) (q : Nat) (u : UrlT) : Prop := w.heap[q]? = some (.cells #[.string ⟨u.scheme.toArray⟩, .string ⟨u.authority.toArray⟩, .string ⟨u.path.toArray⟩, .string ⟨u.query.toArray⟩, .string ⟨u.fragment.toArray⟩, .bool u.hs, .bool u.ha, .bool u.hq, .bool u.hf] 99 (0, 0))
theorem IsUrl.lt {w : World} {q : Nat} {u : UrlT} (h : IsUrl w q u) : q < w.heap.size := lt_of_block h
theorem IsUrl.keeps {S : List Nat} {w w' : World} {q : Nat} {u : UrlT} (h : IsUrl w q u) (hk : Keeps S w w') (hq : q ∉ S) : IsUrl w' q u := by
  rw [IsUrl, hk.block q h.lt hq]; exact h
theorem IsUrl.free {w : World} {q : Nat} {u : UrlT} (h : IsUrl w q u) (j : Nat) : w.frozen? ⟨q, j, none⟩ = false := by
  simp [World.frozen?, IsUrl] at h ⊢; simp [h]
theorem IsUrl.cell {w : World} {q : Nat} {u : UrlT} (h : IsUrl w q u) (j : Nat) : w.cell? ⟨q, j, none⟩ = (urlCells u)[j]? := by
  simp [World.cell?, IsUrl, urlCells] at h ⊢; simp [h]
theorem IsUrl.set0 {w : World} {q : Nat} {u : UrlT} (h : IsUrl w q u) (x : List UInt8) : IsUrl (w.setCell ⟨q, 0, none⟩ (.string ⟨x.toArray⟩)) q { u with scheme := x } := by
  simp [World.setCell, IsUrl, Array.getElem?_modify] at h ⊢; simp [h]
theorem IsUrl.set1 {w : World} {q : Nat} {u : UrlT} (h : IsUrl w q u) (x : List UInt8) : IsUrl (w.setCell ⟨q, 1, none⟩ (.string ⟨x.toArray⟩)) q { u with authority := x } := by
  simp [World.setCell, IsUrl, Array.getElem?_modify] at h ⊢; simp [h]
theorem IsUrl.set2 {w : World} {q : Nat} {u : UrlT} (h : IsUrl w q u) (x : List UInt8) : IsUrl (w.setCell ⟨q, 2, none⟩ (.string ⟨x.toArray⟩)) q { u with path := x } := by
  simp [World.setCell, IsUrl, Array.getElem?_modify] at h ⊢; simp [h]
theorem IsUrl.set3 {w : World} {q : Nat} {u : UrlT} (h : IsUrl w q u) (x : List UInt8) : IsUrl (w.setCell ⟨q, 3, none⟩ (.string ⟨x.toArray⟩)) q { u with query := x } := by
  simp [World.setCell, IsUrl, Array.getElem?_modify] at h ⊢; simp [h]
theorem IsUrl.set4 {w : World} {q : Nat} {u : UrlT} (h : IsUrl w q u) (x : List UInt8) : IsUrl (w.setCell ⟨q, 4, none⟩ (.string ⟨x.toArray⟩)) q { u with fragment := x } := by
  simp [World.setCell, IsUrl, Array.getElem?_modify] at h ⊢; simp [h]
theorem IsUrl.set5 {w : World} {q : Nat} {u : UrlT} (h : IsUrl w q u) (x : Bool) : IsUrl (w.setCell ⟨q, 5, none⟩ (.bool x)) q { u with hs := x } := by
  simp [World.setCell, IsUrl, Array.getElem?_modify] at h ⊢; simp [h]
theorem IsUrl.set6 {w : World} {q : Nat} {u : UrlT} (h : IsUrl w q u) (x : Bool) : IsUrl (w.setCell ⟨q, 6, none⟩ (.bool x)) q { u with ha := x } := by
  simp [World.setCell, IsUrl, Array.getElem?_modify] at h ⊢; simp [h]
theorem IsUrl.set7 {w : World} {q : Nat} {u : UrlT} (h : IsUrl w q u) (x : Bool) : IsUrl (w.setCell ⟨q, 7, none⟩ (.bool x)) q { u with hq := x } := by
  simp [World.setCell, IsUrl, Array.getElem?_modify] at h ⊢; simp [h]
theorem IsUrl.set8 {w : World} {q : Nat} {u : UrlT} (h : IsUrl w q u) (x : Bool) : IsUrl (w.setCell ⟨q, 8, none⟩ (.bool x)) q { u with hf := x } := by
  simp [World.setCell, IsUrl, Array.getElem?_modify] at h ⊢; simp [h]
def IsPtr (w : World) (p b : Nat) : Prop := w.heap[p]? = some (.cells #[.pointer (some ⟨b, 0, none⟩)] 105 (0, 0))
theorem IsPtr.lt {w : World} {p b : Nat} (h : IsPtr w p b) : p < w.heap.size := lt_of_block h
theorem IsPtr.keeps {S : List Nat} {w w' : World} {p b : Nat} (h : IsPtr w p b) (hk : Keeps S w w') (hp : p ∉ S) : IsPtr w' p b := by
  rw [IsPtr, hk.block p h.lt hp]; exact h
theorem IsPtr.cell {w : World} {p b : Nat} (h : IsPtr w p b) : w.cell? ⟨p, 0, none⟩ = some (.pointer (some ⟨b, 0, none⟩)) := cell_of_one h
set_option maxHeartbeats 400000 in
theorem tryScheme_any (p q b : Nat) (u : UrlT) (s : ByteArray) (w : World) (hs : s.size ≤ 3000) (hP : IsPtr w p b) (hU : IsUrl w q u) (hT : IsText w b s 0) (hqb : q ≠ b) :
    Calls Tryz.prog 215 #[.pointer (some ⟨p, 0, none⟩), .pointer (some ⟨q, 0, none⟩)] w fun e w' =>
      (e = .returned (.tuple #[]) ∧ (∃ n, schemeL s.data.toList = some n ∧ IsText w' b s (n.length + 1) ∧ IsUrl w' q { u with scheme := n }) ∨
        e = .panicked gave ∧ (schemeL s.data.toList = none ∧ IsUrl w' q u) ∧ ∃ j, IsText w' b s j) ∧ Keeps [b, q] w w' := by
  have c0 := hP.cell
  have hsc := hide (fun (w : World) hT => scheme_any b s w hs hT)
  go_enter Tryz.func215, Tryz.ntmps215
  go_wp2_with fail
  refine (hsc.out _ hT).mono ?_
  rintro e w1 ⟨⟨n, hn, rfl, hT1⟩ | ⟨hn, rfl, j, hT1⟩, hk1⟩
  · have hU1 := hU.keeps hk1 (by simpa using hqb)
    have f0 := hU1.free 0
    have d0 : w1.cell? ⟨q, 0, none⟩ = some (.string ⟨u.scheme.toArray⟩) := hU1.cell 0
    go_wp2_with fail
    go_end0
    refine ⟨.inl ⟨rfl, n, hn, ?_, hU1.set0 n⟩, ?_⟩
    · exact hT1.keeps (((Keeps.refl [q] w1).setCell (p := ⟨q, 0, none⟩) (by simp) _)) (by simpa using hqb.symm)
    · exact (hk1.mono (T := [b, q]) (by simp)).setCell (by simp) _
  · have hU1 := hU.keeps hk1 (by simpa using hqb)
    go_wp2_with fail
    exact ⟨rfl, .inr ⟨rfl, ⟨hn, hU1⟩, j, hT1⟩, hk1.mono (by simp)⟩
def noUrl : UrlT := ⟨[], [], [], [], [], false, false, false, false⟩
theorem heap_new_at (w : World) (o : Obj) {k : Nat} (h : w.heap.size = k) : (w.alloc o).heap[k]? = some o := by subst h; exact heap_alloc_new w o
theorem info23 : (Tryz.prog.info? 99).map (·.size) = some 9 := by kernel_rfl
theorem IsUrl.range {W : World} {q : Nat} {u : UrlT} (h : IsUrl W q u) : W.rangeAt q 0 (urlCells u).toList := fun j v hv => by
  rw [Nat.zero_add, h.cell j]
  simpa using hv
theorem load23 {W : World} {q : Nat} {u : UrlT} (h : IsUrl W q u) : (loadVar 99 ⟨q, 0, none⟩).run Tryz.prog W = .ok (urlV u) W :=
  run_loadVar_mid W q 0 99 (urlCells u).toList _ h.range Tryz.underlying99 rfl (info23.trans rfl)
theorem index_here {p l : List UInt8} (h : Lib.hasPrefix l p = true) : Lib.index l p = 0 := by
  unfold Lib.index
  cases l with
  | nil => simp_all [Lib.hasPrefix]
  | cons c l =>
    have h' : p <+: c :: l := by unfold Lib.hasPrefix at h; simpa using h
    simp [h']
theorem endOf_hereU {p l : List UInt8} (h : Lib.hasPrefix l p = true) : endOf p l = some p.length := by
  unfold endOf
  rw [index_here h]
  simp
theorem passTo_here (b : Nat) (s : ByteArray) (k : Nat) (p : ByteArray) (w : World) (hs : s.size ≤ 3000) (hp : p.size ≤ 3000) (hT : IsText w b s k) (hk : k ≤ s.size) (hM : HasMax w) (h : stAt s k p.data.toList = true) :
    Calls Tryz.prog 156 #[.pointer (some ⟨b, 0, none⟩), .string p] w fun e w' => e = .returned (.string ⟨#[]⟩) ∧ IsText w' b s (k + p.size) ∧ Keeps [b] w w' := by
  refine (passTo_any b s k p w hs hp hT hk hM).mono ?_
  rintro e w' ⟨⟨m, hm, rfl, hT'⟩ | ⟨hm, _⟩, hk'⟩
  · have e1 : endOf p.data.toList (s.data.toList.drop k) = some p.data.toList.length := endOf_hereU h
    rw [e1] at hm
    simp only [Option.some.injEq] at hm
    subst hm
    have e2 : s.extract k (k + p.data.toList.length - p.size) = ⟨#[]⟩ := WideShapes.bytes_inj (by rw [Lib.extract_data, len_size]; simp)
    rw [e2]
    exact ⟨rfl, hT', hk'⟩
  · have e1 : endOf p.data.toList (s.data.toList.drop k) = some p.data.toList.length := endOf_hereU h
    rw [e1] at hm
    simp at hm
theorem tryS_any (p q b : Nat) (s : ByteArray) (w : World) (hs : s.size ≤ 3000) (hP : IsPtr w p b) (hU : IsUrl w q noUrl) (hT : IsText w b s 0) (hqb : q ≠ b) (hpb : p ≠ b) (hpq : p ≠ q) :
    Calls Tryz.prog 78 #[.pointer (some ⟨b, 0, none⟩), .func (.func 215) #[] #[.pointer (some ⟨p, 0, none⟩), .pointer (some ⟨q, 0, none⟩)]] w fun e w' =>
      e = .returned (.bool (schemeL s.data.toList).isSome) ∧ IsText w' b s (k0L s.data.toList) ∧ IsUrl w' q { noUrl with scheme := (schemeL s.data.toList).getD [] } ∧ Keeps [b, q] w w' := by
  refine (try_any 215 #[.pointer (some ⟨p, 0, none⟩), .pointer (some ⟨q, 0, none⟩)]
    (fun w2 => ∃ n, schemeL s.data.toList = some n ∧ IsText w2 b s (n.length + 1) ∧ IsUrl w2 q { noUrl with scheme := n }) (fun w2 => schemeL s.data.toList = none ∧ IsUrl w2 q noUrl) [b, q] b s 0 w hT enters215 (by simp)
    (fun i hi => by
      rcases List.mem_cons.1 hi with rfl | hi
      · exact hT.lt
      · rcases List.mem_cons.1 hi with rfl | hi
        · exact hU.lt
        · simp at hi)
    (fun w2 w3 h hk => ⟨h.1, h.2.keeps hk (by simpa using hqb)⟩)
    (fun w1 hk1 => (tryScheme_any p q b noUrl s w1 hs (hP.keeps hk1 (by simp)) (hU.keeps hk1 (by simp)) (hT.keeps hk1 (by simp)) hqb))).mono ?_
  rintro e w' ⟨⟨rfl, n, hn, hT', hU'⟩ | ⟨rfl, ⟨hn, hU'⟩, hT'⟩, hk⟩
  · rw [hn]
    refine ⟨rfl, ?_, hU', hk⟩
    unfold k0L; rw [hn]; exact hT'
  · rw [hn]
    refine ⟨rfl, ?_, hU', hk⟩
    unfold k0L; rw [hn]; exact hT'
structure Sp (w : World) (r p q b : Nat) (s : ByteArray) (W : World) (k : Nat) (u : UrlT) : Prop where
  text : IsText W b s k
  ptr : IsPtr W p b
  url : IsUrl W q u
  res : IsUrl W r noUrl
  keeps : Keeps [] w W
  max : HasMax W
  rw : w.heap.size ≤ r
  bw : w.heap.size ≤ b
  qw : w.heap.size ≤ q
  ne1 : p ≠ b
  ne2 : p ≠ q
  ne3 : q ≠ b
  ne4 : r ≠ b
  ne5 : r ≠ q
  b0 : 0 < b
  q0 : 0 < q
theorem Sp.move {w : World} {r p q b : Nat} {s : ByteArray} {W : World} {k : Nat} {u : UrlT} (h : Sp w r p q b s W k u) {W' : World} {k' : Nat} (hT : IsText W' b s k') (hk : Keeps [b] W W') : Sp w r p q b s W' k' u :=
  ⟨hT, h.ptr.keeps hk (by simpa using h.ne1), h.url.keeps hk (by simpa using h.ne3), h.res.keeps hk (by simpa using h.ne4),
    (h.keeps.mono (T := [b]) (by simp)).trans hk |>.mono (fun i hi hlt => by have := h.bw; simp at hi; omega),
    h.max.keeps hk (by have := h.b0; simp; omega), h.rw, h.bw, h.qw, h.ne1, h.ne2, h.ne3, h.ne4, h.ne5, h.b0, h.q0⟩
theorem Sp.drew {w : World} {r p q b : Nat} {s : ByteArray} {W : World} {k : Nat} {u : UrlT} (h : Sp w r p q b s W k u) (n : Nat) : Sp w r p q b s (W.drewN n) k u :=
  ⟨h.text, h.ptr, h.url, h.res, h.keeps.drewN n, h.max, h.rw, h.bw, h.qw, h.ne1, h.ne2, h.ne3, h.ne4, h.ne5, h.b0, h.q0⟩
theorem Sp.put {w : World} {r p q b : Nat} {s : ByteArray} {W : World} {k : Nat} {u : UrlT} (h : Sp w r p q b s W k u) {j : Nat} {v : Value} {u' : UrlT} (hU : IsUrl (W.setCell ⟨q, j, none⟩ v) q u') : Sp w r p q b s (W.setCell ⟨q, j, none⟩ v) k u' := by
  have hk : Keeps [q] W (W.setCell ⟨q, j, none⟩ v) := (Keeps.refl [q] W).setCell (p := ⟨q, j, none⟩) (by simp) v
  exact ⟨h.text.keeps hk (by simpa using h.ne3.symm), h.ptr.keeps hk (by simpa using h.ne2), hU, h.res.keeps hk (by simpa using h.ne5),
    (h.keeps.mono (T := [q]) (by simp)).trans hk |>.mono (fun i hi hlt => by have := h.qw; simp at hi; omega),
    h.max.keeps hk (by have := h.q0; simp; omega), h.rw, h.bw, h.qw, h.ne1, h.ne2, h.ne3, h.ne4, h.ne5, h.b0, h.q0⟩
theorem Sp.ptr_set {w : World} {r p q b : Nat} {s : ByteArray} {W : World} {k : Nat} {u : UrlT} (h : Sp w r p q b s W k u) (j : Nat) (v : Value) : (W.setCell ⟨q, j, none⟩ v).cell? ⟨p, 0, none⟩ = some (.pointer (some ⟨b, 0, none⟩)) := by
  have : (W.setCell ⟨q, j, none⟩ v).heap[p]? = W.heap[p]? := Below.heap_setCell _ _ _ _ h.ne2
  exact (World.cell?_of_block (a := ⟨p, 0, none⟩) this).trans h.ptr.cell
theorem Sp.own_set {w : World} {r p q b : Nat} {s : ByteArray} {W : World} {k : Nat} {u : UrlT} (h : Sp w r p q b s W k u) (j : Nat) (hj : j < 9) (v : Value) : (W.setCell ⟨q, j, none⟩ v).cell? ⟨q, j, none⟩ = some v := by
  have := h.url
  unfold IsUrl at this
  simp [World.cell?, World.setCell, Array.getElem?_modify, this, hj]
theorem begS (b : Nat) (s : ByteArray) (k : Nat) (p : ByteArray) (W : World) (w : World) (r p' q : Nat) (u : UrlT) (h : Sp w r p' q b s W k u) (hk : k ≤ s.size) (x : Bool) (hx : stAt s k p.data.toList = x) :
    Calls Tryz.prog 155 #[.pointer (some ⟨b, 0, none⟩), .string p] W fun e W' => e = .returned (.bool x) ∧ Sp w r p' q b s W' k u := by
  refine (begins_any b s k p W h.text hk).mono ?_
  rintro e W' ⟨rfl, n, rfl⟩
  rw [hx]
  exact ⟨rfl, h.drew n⟩
theorem upS (b : Nat) (s : ByteArray) (k : Nat) (ends : ByteArray) (f : UInt8 → Bool) (hf : ∀ c, decide (Lib.indexByte ends.data.toList c < 0) = f c) (W : World) (w : World) (r p' q : Nat) (u : UrlT) (h : Sp w r p' q b s W k u) (hs : s.size ≤ 3000) (hk : k ≤ s.size) (x : List UInt8) (hx : (s.data.toList.drop k).takeWhile f = x) :
    Calls Tryz.prog 217 #[.pointer (some ⟨b, 0, none⟩), .string ends] W fun e W' => e = .returned (.string ⟨x.toArray⟩) ∧ Sp w r p' q b s W' (k + x.length) u := by
  refine (passUpTo_any b s k ends f hf W hs h.text hk).mono ?_
  rintro e W' ⟨rfl, hT, hkp⟩
  rw [hx] at hT ⊢
  exact ⟨rfl, h.move hT hkp⟩
theorem oneS (b : Nat) (s : ByteArray) (k : Nat) (W : World) (w : World) (r p' q : Nat) (u : UrlT) (h : Sp w r p' q b s W k u) (hs : s.size ≤ 3000) (hk : k < s.size) :
    Calls Tryz.prog 157 #[.pointer (some ⟨b, 0, none⟩)] W fun e W' => e = .returned (.int .u8 (byteAt s k).toNat) ∧ Sp w r p' q b s W' (k + 1) u := by
  refine (one_yes b s k W hs h.text hk).mono ?_
  rintro e W' ⟨rfl, hT, hkp⟩
  exact ⟨rfl, h.move hT hkp⟩
theorem toS (b : Nat) (s : ByteArray) (k : Nat) (p : ByteArray) (W : World) (w : World) (r p' q : Nat) (u : UrlT) (h : Sp w r p' q b s W k u) (hs : s.size ≤ 3000) (hp : p.size ≤ 3000) (hk : k ≤ s.size) (hx : stAt s k p.data.toList = true) :
    Calls Tryz.prog 156 #[.pointer (some ⟨b, 0, none⟩), .string p] W fun e W' => e = .returned (.string ⟨#[]⟩) ∧ Sp w r p' q b s W' (k + p.size) u := by
  refine (passTo_here b s k p W hs hp h.text hk h.max hx).mono ?_
  rintro e W' ⟨rfl, hT, hkp⟩
  exact ⟨rfl, h.move hT hkp⟩
theorem restS (b : Nat) (s : ByteArray) (k : Nat) (W : World) (w : World) (r p' q : Nat) (u : UrlT) (h : Sp w r p' q b s W k u) (hk : k ≤ s.size) (x : List UInt8) (hx : s.data.toList.drop k = x) :
    Calls Tryz.prog 80 #[.pointer (some ⟨b, 0, none⟩)] W fun e W' => e = .returned (.string ⟨x.toArray⟩) ∧ Sp w r p' q b s W' s.size u := by
  refine (rest_any b s k W h.text hk).mono ?_
  rintro e W' ⟨rfl, hT, hkp⟩
  have e1 : s.extract k s.size = ⟨x.toArray⟩ := by
    apply WideShapes.bytes_inj
    rw [Lib.extract_to_end, hx]
  rw [e1]
  exact ⟨rfl, h.move hT hkp⟩
theorem st_lt {s : ByteArray} {k : Nat} {p : List UInt8} (h : stAt s k p = true) (hp : 0 < p.length) : k + p.length ≤ s.size := by
  have h1 : p <+: s.data.toList.drop k := by unfold stAt at h; simpa using h
  have h2 := h1.length_le
  rw [List.length_drop, len_size] at h2
  omega
theorem k0_le (s : ByteArray) : k0L s.data.toList ≤ s.size := by
  unfold k0L
  cases h : schemeL s.data.toList with
  | none => exact Nat.zero_le _
  | some n =>
    unfold schemeL at h
    split at h
    · rename_i hc
      simp only [Option.some.injEq] at h
      subst h
      rcases Nat.lt_or_ge (s.data.toList.takeWhile schB).length s.size with h' | h'
      · simp only; omega
      · have := hc.2.2
        rw [List.drop_eq_nil_of_le (by rw [len_size]; exact h')] at this
        simp at this
    · simp at h
theorem end12 {tmps : Array Value} {W w : World} {r : Nat} {u A : UrlT} (hp : tmps.getD 2 undef = .pointer (some ⟨r, 0, none⟩)) (hU : IsUrl W r u) (hA : A = u) (hk : Keeps [] w W) :
    bodyPost Tryz.prog Tryz.f145 (fun e w' => e = .returned (urlV A) ∧ Keeps [] w w') Exit.ret { tmps := tmps, defers := [] } W := by
  subst hA
  exact ⟨rfl, _, results_cell_row (P := Tryz.prog) rfl tmps W r 99 (urlCells A) (0, 0) _ hp hU Tryz.underlying99 rfl (info23.trans rfl), rfl, hk⟩
theorem keeps9 {w W : World} {r : Nat} (h : Keeps [] w W) (hr : w.heap.size ≤ r) (v0 v1 v2 v3 v4 v5 v6 v7 v8 : Value) :
    Keeps [] w (((((((((W.setCell ⟨r, 0, none⟩ v0).setCell ⟨r, 1, none⟩ v1).setCell ⟨r, 2, none⟩ v2).setCell ⟨r, 3, none⟩ v3).setCell ⟨r, 4, none⟩ v4).setCell ⟨r, 5, none⟩ v5).setCell ⟨r, 6, none⟩ v6).setCell ⟨r, 7, none⟩ v7).setCell ⟨r, 8, none⟩ v8) :=
  ((((((((h.setCell (.inr hr) _).setCell (.inr hr) _).setCell (.inr hr) _).setCell (.inr hr) _).setCell (.inr hr) _).setCell (.inr hr) _).setCell (.inr hr) _).setCell (.inr hr) _).setCell (.inr hr) _
set_option maxRecDepth 4000 in
set_option maxHeartbeats 8000000 in
theorem split_any (s : ByteArray) (w : World) (hs : s.size ≤ 3000) (hM : HasMax w) :
    Calls Tryz.prog 145 #[.string s] w fun e w' => e = .returned (urlV (splitL s.data.toList)) ∧ Keeps [] w w' := by
  have hmf : ∀ (fn : Fn) (first cap : Array Value) (w : World), (Instr.makeFunc fn first cap).run Tryz.prog w = .ok (.func fn first cap) w := fun _ _ _ _ => rfl
  obtain ⟨A, hA⟩ : ∃ A, splitL s.data.toList = A := ⟨_, rfl⟩
  rw [hA]
  have HA := hide hA
  clear hA
  obtain ⟨sc, hsc⟩ : ∃ x, (schemeL s.data.toList).getD [] = x := ⟨_, rfl⟩
  obtain ⟨hs0, hhs⟩ : ∃ x, (schemeL s.data.toList).isSome = x := ⟨_, rfl⟩
  obtain ⟨k0, hk0⟩ : ∃ x, k0L s.data.toList = x := ⟨_, rfl⟩
  have hk0le := k0_le s
  rw [hk0] at hk0le
  obtain ⟨ha, hha⟩ : ∃ x, haL s.data.toList = x := ⟨_, rfl⟩
  obtain ⟨au, hau⟩ : ∃ x, auL s.data.toList = x := ⟨_, rfl⟩
  obtain ⟨k1, hk1⟩ : ∃ x, k1L s.data.toList = x := ⟨_, rfl⟩
  obtain ⟨pa, hpa⟩ : ∃ x, pathL s.data.toList = x := ⟨_, rfl⟩
  obtain ⟨k2, hk2⟩ : ∃ x, k2L s.data.toList = x := ⟨_, rfl⟩
  obtain ⟨hq, hhq⟩ : ∃ x, hqL s.data.toList = x := ⟨_, rfl⟩
  obtain ⟨qu, hqu⟩ : ∃ x, quL s.data.toList = x := ⟨_, rfl⟩
  obtain ⟨k3, hk3⟩ : ∃ x, k3L s.data.toList = x := ⟨_, rfl⟩
  obtain ⟨hf, hhf⟩ : ∃ x, hfL s.data.toList = x := ⟨_, rfl⟩
  obtain ⟨fr, hfr⟩ : ∃ x, frL s.data.toList = x := ⟨_, rfl⟩
  have HA2 : Hid (A = ⟨sc, au, pa, qu, fr, hs0, ha, hq, hf⟩) := by
    rw [← HA.out]; unfold splitL; rw [hsc, hau, hpa, hqu, hfr, hhs, hha, hhq, hhf]; exact rfl
  have b1 : Hid (stAt s k0 [47, 47] = ha) := by rw [← hha, ← hk0]; exact rfl
  have x1 : Hid (au = if ha = true then (s.data.toList.drop (k0 + 2)).takeWhile authB else []) := by rw [← hau, ← hha, ← hk0]; exact rfl
  have y1 : Hid (k1 = if ha = true then k0 + 2 + au.length else k0) := by rw [← hk1, ← hau, ← hha, ← hk0]; exact rfl
  have x2 : Hid ((s.data.toList.drop k1).takeWhile pathB = pa) := by rw [← hpa, ← hk1]; exact rfl
  have y2 : Hid (k2 = k1 + pa.length) := by rw [← hk2, ← hpa, ← hk1]; exact rfl
  have b3 : Hid (stAt s k2 [63] = hq) := by rw [← hhq, ← hk2]; exact rfl
  have x3 : Hid (qu = if hq = true then (s.data.toList.drop (k2 + 1)).takeWhile queryB else []) := by rw [← hqu, ← hhq, ← hk2]; exact rfl
  have y3 : Hid (k3 = if hq = true then k2 + 1 + qu.length else k2) := by rw [← hk3, ← hqu, ← hhq, ← hk2]; exact rfl
  have b4 : Hid (stAt s k3 [35] = hf) := by rw [← hhf, ← hk3]; exact rfl
  have x4 : Hid (fr = if hf = true then s.data.toList.drop (k3 + 1) else []) := by rw [← hfr, ← hhf, ← hk3]; exact rfl
  have T := hide (fun p q b (w : World) => tryS_any p q b s w hs)
  rw [hsc, hhs, hk0] at T
  clear HA hsc hhs hk0 hha hau hk1 hpa hk2 hhq hqu hk3 hhf hfr
  have tw := hide (fun f k (h : k ≤ s.size) => takeWhile_le f s k h)
  go_enter Tryz.func145, Tryz.ntmps145
  go_wp2_with fail
  refine (new_any s _).mono ?_
  rintro e w1 ⟨rfl, rfl⟩
  go_wp2_with fail
  obtain ⟨W0, hW0⟩ : ∃ W0, W0 = ((((w.alloc (.cells #[.string ⟨#[]⟩, .string ⟨#[]⟩, .string ⟨#[]⟩, .string ⟨#[]⟩, .string ⟨#[]⟩, .bool false, .bool false, .bool false, .bool false] 99)).alloc (.cells #[.string s, .int .i64 0] 181)).alloc (.cells #[.pointer (some ⟨w.heap.size + 1, 0, none⟩)] 105)).alloc (.cells #[.string ⟨#[]⟩, .string ⟨#[]⟩, .string ⟨#[]⟩, .string ⟨#[]⟩, .string ⟨#[]⟩, .bool false, .bool false, .bool false, .bool false] 99)) := ⟨_, rfl⟩
  rw [← hW0]
  have hw0 := hM.lt
  have g0 : Sp w w.heap.size (w.heap.size + 1 + 1) (w.heap.size + 1 + 1 + 1) (w.heap.size + 1) s W0 0 noUrl := by
    subst hW0
    have hkp : Keeps [] w _ := ((((Keeps.refl [] w).alloc (.cells #[.string ⟨#[]⟩, .string ⟨#[]⟩, .string ⟨#[]⟩, .string ⟨#[]⟩, .string ⟨#[]⟩, .bool false, .bool false, .bool false, .bool false] 99)).alloc (.cells #[.string s, .int .i64 0] 181)).alloc (.cells #[.pointer (some ⟨w.heap.size + 1, 0, none⟩)] 105)).alloc (.cells #[.string ⟨#[]⟩, .string ⟨#[]⟩, .string ⟨#[]⟩, .string ⟨#[]⟩, .string ⟨#[]⟩, .bool false, .bool false, .bool false, .bool false] 99)
    refine ⟨?_, ?_, ?_, ?_, hkp, hM.keeps hkp (by simp), by omega, by omega, by omega, by omega, by omega, by omega, by omega, by omega, by omega, by omega⟩
    · unfold IsText
      rw [Below.heap_alloc _ _ _ (by simp), Below.heap_alloc _ _ _ (by simp)]
      exact heap_new_at _ _ (by simp)
    · unfold IsPtr
      rw [Below.heap_alloc _ _ _ (by simp)]
      exact heap_new_at _ _ (by simp)
    · unfold IsUrl noUrl
      exact heap_new_at _ _ (by simp)
    · unfold IsUrl noUrl
      rw [Below.heap_alloc _ _ _ (by simp; omega), Below.heap_alloc _ _ _ (by simp; omega), Below.heap_alloc _ _ _ (by simp)]
      exact heap_new_at _ _ rfl
  clear hW0
  generalize w.heap.size + 1 + 1 + 1 = q at *
  generalize w.heap.size + 1 + 1 = p at *
  generalize w.heap.size + 1 = b at *
  generalize hr : w.heap.size = r at *
  clear hr
  refine (T.out _ _ _ _ g0.ptr g0.url g0.text g0.ne3 g0.ne1 g0.ne2).mono ?_
  rintro e W1 ⟨rfl, hT1, hU1, hk1⟩
  have g1 : Sp w r p q b s W1 k0 ⟨sc, [], [], [], [], false, false, false, false⟩ :=
    ⟨hT1, g0.ptr.keeps hk1 (by have := g0.ne1; have := g0.ne2; simp; omega), hU1, g0.res.keeps hk1 (by have := g0.ne4; have := g0.ne5; simp; omega),
      (g0.keeps.mono (T := [b, q]) (by simp)).trans hk1 |>.mono (fun i hi hlt => by have := g0.bw; have := g0.qw; simp at hi; omega),
      g0.max.keeps hk1 (by have := g0.b0; have := g0.q0; simp; omega), g0.rw, g0.bw, g0.qw, g0.ne1, g0.ne2, g0.ne3, g0.ne4, g0.ne5, g0.b0, g0.q0⟩
  clear g0 hT1 hU1 hk1 T
  have pp := g1.ptr.cell
  have ps := g1.ptr_set 5
  have d : W1.cell? ⟨q, 5, none⟩ = some (.bool false) := g1.url.cell 5
  have f := g1.url.free 5
  have o := g1.own_set 5 (by decide)
  go_wp2_with fail
  clear pp ps d f o
  have g2 : Sp w r p q b s (W1.setCell ⟨q, 5, none⟩ (.bool hs0)) k0 ⟨sc, [], [], [], [], hs0, false, false, false⟩ := g1.put (g1.url.set5 hs0)
  cases ha
  · have B1 := hide (begS b s k0 ⟨#[47, 47]⟩ (W1.setCell ⟨q, 5, none⟩ (.bool hs0)) w r p q ⟨sc, [], [], [], [], hs0, false, false, false⟩ g2 hk0le false b1.out)
    refine B1.out.mono ?_
    rintro e W3 ⟨rfl, g3⟩
    have AE : Hid (au = []) := x1.out.trans (if_neg (by simp))
    have kk1 : Hid (k0 = k1) := (y1.out.trans (if_neg (by simp))).symm
    have kl1 : Hid (k1 ≤ s.size) := by rw [← kk1.out]; exact hk0le
    have pp := g3.ptr.cell
    have ps := g3.ptr_set 6
    have d : W3.cell? ⟨q, 6, none⟩ = some (.bool false) := g3.url.cell 6
    have f := g3.url.free 6
    have o := g3.own_set 6 (by decide)
    go_wp2_with fail
    clear pp ps d f o
    have g4 : Sp w r p q b s (W3.setCell ⟨q, 6, none⟩ (.bool false)) k0 ⟨sc, [], [], [], [], hs0, false, false, false⟩ := g3.put (g3.url.set6 false)
    have hg4 : Sp w r p q b s (W3.setCell ⟨q, 6, none⟩ (.bool false)) k1 ⟨sc, [], [], [], [], hs0, false, false, false⟩ := kk1.out ▸ g4
    refine (upS b s k1 ⟨#[63, 35]⟩ pathB ends2 (W3.setCell ⟨q, 6, none⟩ (.bool false)) w r p q ⟨sc, [], [], [], [], hs0, false, false, false⟩ hg4 hs kl1.out pa x2.out).mono ?_
    rintro e W5 ⟨rfl, g5⟩
    rw [← y2.out] at g5
    have pp := g5.ptr.cell
    have ps := g5.ptr_set 2
    have d : W5.cell? ⟨q, 2, none⟩ = some (.string ⟨([] : List UInt8).toArray⟩) := g5.url.cell 2
    have f := g5.url.free 2
    have o := g5.own_set 2 (by decide)
    go_wp2_with fail
    clear pp ps d f o
    have g6 : Sp w r p q b s (W5.setCell ⟨q, 2, none⟩ (.string ⟨pa.toArray⟩)) k2 ⟨sc, [], pa, [], [], hs0, false, false, false⟩ := g5.put (g5.url.set2 pa)
    have kl2 : Hid (k2 ≤ s.size) := by have := tw.out pathB k1 kl1.out; rw [x2.out] at this; rw [y2.out]; exact this
    cases hq
    · have B3 := hide (begS b s k2 ⟨#[63]⟩ (W5.setCell ⟨q, 2, none⟩ (.string ⟨pa.toArray⟩)) w r p q ⟨sc, [], pa, [], [], hs0, false, false, false⟩ g6 kl2.out false b3.out)
      refine B3.out.mono ?_
      rintro e W7 ⟨rfl, g7⟩
      have qe : qu = [] := x3.out.trans (if_neg (by simp))
      have kk3 : Hid (k2 = k3) := (y3.out.trans (if_neg (by simp))).symm
      have kl3 : Hid (k3 ≤ s.size) := by rw [← kk3.out]; exact kl2.out
      have QE := hide qe
      clear qe
      have pp := g7.ptr.cell
      have ps := g7.ptr_set 7
      have d : W7.cell? ⟨q, 7, none⟩ = some (.bool false) := g7.url.cell 7
      have f := g7.url.free 7
      have o := g7.own_set 7 (by decide)
      go_wp2_with fail
      clear pp ps d f o
      have g8 : Sp w r p q b s (W7.setCell ⟨q, 7, none⟩ (.bool false)) k2 ⟨sc, [], pa, [], [], hs0, false, false, false⟩ := g7.put (g7.url.set7 false)
      have g_8 : Sp w r p q b s (W7.setCell ⟨q, 7, none⟩ (.bool false)) k3 ⟨sc, [], pa, [], [], hs0, false, false, false⟩ := kk3.out ▸ g8
      cases hf
      · have B4 := hide (begS b s k3 ⟨#[35]⟩ (W7.setCell ⟨q, 7, none⟩ (.bool false)) w r p q ⟨sc, [], pa, [], [], hs0, false, false, false⟩ g_8 kl3.out false b4.out)
        refine B4.out.mono ?_
        rintro e W9 ⟨rfl, g9⟩
        have FE : Hid (fr = []) := x4.out.trans (if_neg (by simp))
        have pp := g9.ptr.cell
        have d : W9.cell? ⟨q, 8, none⟩ = some (.bool false) := g9.url.cell 8
        have f := g9.url.free 8
        have o := g9.own_set 8 (by decide)
        have g10 : Sp w r p q b s (W9.setCell ⟨q, 8, none⟩ (.bool false)) k3 ⟨sc, [], pa, [], [], hs0, false, false, false⟩ := g9.put (g9.url.set8 false)
        have u0 : (W9.setCell ⟨q, 8, none⟩ (.bool false)).cell? ⟨q, 0, none⟩ = some (.string ⟨(sc : List UInt8).toArray⟩) := g10.url.cell 0
        have r0 : (W9.setCell ⟨q, 8, none⟩ (.bool false)).cell? ⟨r, 0, none⟩ = some (.string ⟨([] : List UInt8).toArray⟩) := g10.res.cell 0
        have z0 := g10.res.free 0
        have u1 : (W9.setCell ⟨q, 8, none⟩ (.bool false)).cell? ⟨q, 1, none⟩ = some (.string ⟨([] : List UInt8).toArray⟩) := g10.url.cell 1
        have r1 : (W9.setCell ⟨q, 8, none⟩ (.bool false)).cell? ⟨r, 1, none⟩ = some (.string ⟨([] : List UInt8).toArray⟩) := g10.res.cell 1
        have z1 := g10.res.free 1
        have u2 : (W9.setCell ⟨q, 8, none⟩ (.bool false)).cell? ⟨q, 2, none⟩ = some (.string ⟨(pa : List UInt8).toArray⟩) := g10.url.cell 2
        have r2 : (W9.setCell ⟨q, 8, none⟩ (.bool false)).cell? ⟨r, 2, none⟩ = some (.string ⟨([] : List UInt8).toArray⟩) := g10.res.cell 2
        have z2 := g10.res.free 2
        have u3 : (W9.setCell ⟨q, 8, none⟩ (.bool false)).cell? ⟨q, 3, none⟩ = some (.string ⟨([] : List UInt8).toArray⟩) := g10.url.cell 3
        have r3 : (W9.setCell ⟨q, 8, none⟩ (.bool false)).cell? ⟨r, 3, none⟩ = some (.string ⟨([] : List UInt8).toArray⟩) := g10.res.cell 3
        have z3 := g10.res.free 3
        have u4 : (W9.setCell ⟨q, 8, none⟩ (.bool false)).cell? ⟨q, 4, none⟩ = some (.string ⟨([] : List UInt8).toArray⟩) := g10.url.cell 4
        have r4 : (W9.setCell ⟨q, 8, none⟩ (.bool false)).cell? ⟨r, 4, none⟩ = some (.string ⟨([] : List UInt8).toArray⟩) := g10.res.cell 4
        have z4 := g10.res.free 4
        have u5 : (W9.setCell ⟨q, 8, none⟩ (.bool false)).cell? ⟨q, 5, none⟩ = some (.bool hs0) := g10.url.cell 5
        have r5 : (W9.setCell ⟨q, 8, none⟩ (.bool false)).cell? ⟨r, 5, none⟩ = some (.bool false) := g10.res.cell 5
        have z5 := g10.res.free 5
        have u6 : (W9.setCell ⟨q, 8, none⟩ (.bool false)).cell? ⟨q, 6, none⟩ = some (.bool false) := g10.url.cell 6
        have r6 : (W9.setCell ⟨q, 8, none⟩ (.bool false)).cell? ⟨r, 6, none⟩ = some (.bool false) := g10.res.cell 6
        have z6 := g10.res.free 6
        have u7 : (W9.setCell ⟨q, 8, none⟩ (.bool false)).cell? ⟨q, 7, none⟩ = some (.bool false) := g10.url.cell 7
        have r7 : (W9.setCell ⟨q, 8, none⟩ (.bool false)).cell? ⟨r, 7, none⟩ = some (.bool false) := g10.res.cell 7
        have z7 := g10.res.free 7
        have u8 : (W9.setCell ⟨q, 8, none⟩ (.bool false)).cell? ⟨q, 8, none⟩ = some (.bool false) := g10.url.cell 8
        have r8 : (W9.setCell ⟨q, 8, none⟩ (.bool false)).cell? ⟨r, 8, none⟩ = some (.bool false) := g10.res.cell 8
        have z8 := g10.res.free 8
        go_wp2_with fail
        exact end12 rfl (((((((((g10.res.set0 sc).set1 []).set2 pa).set3 []).set4 []).set5 hs0).set6 false).set7 false).set8 false) (HA2.out.trans (by rw [AE.out, QE.out, FE.out])) (keeps9 g10.keeps g10.rw _ _ _ _ _ _ _ _ _)
      · have B4 := hide (begS b s k3 ⟨#[35]⟩ (W7.setCell ⟨q, 7, none⟩ (.bool false)) w r p q ⟨sc, [], pa, [], [], hs0, false, false, false⟩ g_8 kl3.out true b4.out)
        refine B4.out.mono ?_
        rintro e W11 ⟨rfl, g11⟩
        have pp := g11.ptr.cell
        have ps := g11.ptr_set 8
        have d : W11.cell? ⟨q, 8, none⟩ = some (.bool false) := g11.url.cell 8
        have f := g11.url.free 8
        have o := g11.own_set 8 (by decide)
        go_wp2_with fail
        clear pp ps d f o
        have g12 : Sp w r p q b s (W11.setCell ⟨q, 8, none⟩ (.bool true)) k3 ⟨sc, [], pa, [], [], hs0, false, false, true⟩ := g11.put (g11.url.set8 true)
        have lt4 : k3 < s.size := by have := st_lt b4.out (by decide); simp only [List.length_cons, List.length_nil] at this; omega
        refine (oneS b s k3 (W11.setCell ⟨q, 8, none⟩ (.bool true)) w r p q ⟨sc, [], pa, [], [], hs0, false, false, true⟩ g12 hs lt4).mono ?_
        rintro e W13 ⟨rfl, g13⟩
        have pp := g13.ptr.cell
        go_wp2_with fail
        refine (restS b s (k3 + 1) W13 w r p q ⟨sc, [], pa, [], [], hs0, false, false, true⟩ g13 (by omega) fr (x4.out.trans (if_pos (by simp))).symm).mono ?_
        rintro e W14 ⟨rfl, g14⟩
        have pp := g14.ptr.cell
        have d : W14.cell? ⟨q, 4, none⟩ = some (.string ⟨([] : List UInt8).toArray⟩) := g14.url.cell 4
        have f := g14.url.free 4
        have o := g14.own_set 4 (by decide)
        have g15 : Sp w r p q b s (W14.setCell ⟨q, 4, none⟩ (.string ⟨fr.toArray⟩)) s.size ⟨sc, [], pa, [], fr, hs0, false, false, true⟩ := g14.put (g14.url.set4 fr)
        have u0 : (W14.setCell ⟨q, 4, none⟩ (.string ⟨fr.toArray⟩)).cell? ⟨q, 0, none⟩ = some (.string ⟨(sc : List UInt8).toArray⟩) := g15.url.cell 0
        have r0 : (W14.setCell ⟨q, 4, none⟩ (.string ⟨fr.toArray⟩)).cell? ⟨r, 0, none⟩ = some (.string ⟨([] : List UInt8).toArray⟩) := g15.res.cell 0
        have z0 := g15.res.free 0
        have u1 : (W14.setCell ⟨q, 4, none⟩ (.string ⟨fr.toArray⟩)).cell? ⟨q, 1, none⟩ = some (.string ⟨([] : List UInt8).toArray⟩) := g15.url.cell 1
        have r1 : (W14.setCell ⟨q, 4, none⟩ (.string ⟨fr.toArray⟩)).cell? ⟨r, 1, none⟩ = some (.string ⟨([] : List UInt8).toArray⟩) := g15.res.cell 1
        have z1 := g15.res.free 1
        have u2 : (W14.setCell ⟨q, 4, none⟩ (.string ⟨fr.toArray⟩)).cell? ⟨q, 2, none⟩ = some (.string ⟨(pa : List UInt8).toArray⟩) := g15.url.cell 2
        have r2 : (W14.setCell ⟨q, 4, none⟩ (.string ⟨fr.toArray⟩)).cell? ⟨r, 2, none⟩ = some (.string ⟨([] : List UInt8).toArray⟩) := g15.res.cell 2
        have z2 := g15.res.free 2
        have u3 : (W14.setCell ⟨q, 4, none⟩ (.string ⟨fr.toArray⟩)).cell? ⟨q, 3, none⟩ = some (.string ⟨([] : List UInt8).toArray⟩) := g15.url.cell 3
        have r3 : (W14.setCell ⟨q, 4, none⟩ (.string ⟨fr.toArray⟩)).cell? ⟨r, 3, none⟩ = some (.string ⟨([] : List UInt8).toArray⟩) := g15.res.cell 3
        have z3 := g15.res.free 3
        have u4 : (W14.setCell ⟨q, 4, none⟩ (.string ⟨fr.toArray⟩)).cell? ⟨q, 4, none⟩ = some (.string ⟨(fr : List UInt8).toArray⟩) := g15.url.cell 4
        have r4 : (W14.setCell ⟨q, 4, none⟩ (.string ⟨fr.toArray⟩)).cell? ⟨r, 4, none⟩ = some (.string ⟨([] : List UInt8).toArray⟩) := g15.res.cell 4
        have z4 := g15.res.free 4
        have u5 : (W14.setCell ⟨q, 4, none⟩ (.string ⟨fr.toArray⟩)).cell? ⟨q, 5, none⟩ = some (.bool hs0) := g15.url.cell 5
        have r5 : (W14.setCell ⟨q, 4, none⟩ (.string ⟨fr.toArray⟩)).cell? ⟨r, 5, none⟩ = some (.bool false) := g15.res.cell 5
        have z5 := g15.res.free 5
        have u6 : (W14.setCell ⟨q, 4, none⟩ (.string ⟨fr.toArray⟩)).cell? ⟨q, 6, none⟩ = some (.bool false) := g15.url.cell 6
        have r6 : (W14.setCell ⟨q, 4, none⟩ (.string ⟨fr.toArray⟩)).cell? ⟨r, 6, none⟩ = some (.bool false) := g15.res.cell 6
        have z6 := g15.res.free 6
        have u7 : (W14.setCell ⟨q, 4, none⟩ (.string ⟨fr.toArray⟩)).cell? ⟨q, 7, none⟩ = some (.bool false) := g15.url.cell 7
        have r7 : (W14.setCell ⟨q, 4, none⟩ (.string ⟨fr.toArray⟩)).cell? ⟨r, 7, none⟩ = some (.bool false) := g15.res.cell 7
        have z7 := g15.res.free 7
        have u8 : (W14.setCell ⟨q, 4, none⟩ (.string ⟨fr.toArray⟩)).cell? ⟨q, 8, none⟩ = some (.bool true) := g15.url.cell 8
        have r8 : (W14.setCell ⟨q, 4, none⟩ (.string ⟨fr.toArray⟩)).cell? ⟨r, 8, none⟩ = some (.bool false) := g15.res.cell 8
        have z8 := g15.res.free 8
        go_wp2_with fail
        exact end12 rfl (((((((((g15.res.set0 sc).set1 []).set2 pa).set3 []).set4 fr).set5 hs0).set6 false).set7 false).set8 true) (HA2.out.trans (by rw [AE.out, QE.out])) (keeps9 g15.keeps g15.rw _ _ _ _ _ _ _ _ _)
    · have B3 := hide (begS b s k2 ⟨#[63]⟩ (W5.setCell ⟨q, 2, none⟩ (.string ⟨pa.toArray⟩)) w r p q ⟨sc, [], pa, [], [], hs0, false, false, false⟩ g6 kl2.out true b3.out)
      refine B3.out.mono ?_
      rintro e W16 ⟨rfl, g16⟩
      have pp := g16.ptr.cell
      have ps := g16.ptr_set 7
      have d : W16.cell? ⟨q, 7, none⟩ = some (.bool false) := g16.url.cell 7
      have f := g16.url.free 7
      have o := g16.own_set 7 (by decide)
      go_wp2_with fail
      clear pp ps d f o
      have g17 : Sp w r p q b s (W16.setCell ⟨q, 7, none⟩ (.bool true)) k2 ⟨sc, [], pa, [], [], hs0, false, true, false⟩ := g16.put (g16.url.set7 true)
      have lt3 : k2 < s.size := by have := st_lt b3.out (by decide); simp only [List.length_cons, List.length_nil] at this; omega
      have kk3 : Hid (k2 + 1 + qu.length = k3) := (y3.out.trans (if_pos (by simp))).symm
      have kl3 : Hid (k3 ≤ s.size) := by have := tw.out queryB (k2 + 1) (by omega); rw [← x3.out.trans (if_pos (by simp))] at this; rw [← kk3.out]; exact this
      refine (oneS b s k2 (W16.setCell ⟨q, 7, none⟩ (.bool true)) w r p q ⟨sc, [], pa, [], [], hs0, false, true, false⟩ g17 hs lt3).mono ?_
      rintro e W18 ⟨rfl, g18⟩
      have pp := g18.ptr.cell
      go_wp2_with fail
      clear pp
      refine (upS b s (k2 + 1) ⟨#[35]⟩ queryB ends3 W18 w r p q ⟨sc, [], pa, [], [], hs0, false, true, false⟩ g18 hs (by omega) qu (x3.out.trans (if_pos (by simp))).symm).mono ?_
      rintro e W19 ⟨rfl, g19⟩
      have pp := g19.ptr.cell
      have ps := g19.ptr_set 3
      have d : W19.cell? ⟨q, 3, none⟩ = some (.string ⟨([] : List UInt8).toArray⟩) := g19.url.cell 3
      have f := g19.url.free 3
      have o := g19.own_set 3 (by decide)
      go_wp2_with fail
      clear pp ps d f o
      have g20 : Sp w r p q b s (W19.setCell ⟨q, 3, none⟩ (.string ⟨qu.toArray⟩)) (k2 + 1 + qu.length) ⟨sc, [], pa, qu, [], hs0, false, true, false⟩ := g19.put (g19.url.set3 qu)
      have g_20 : Sp w r p q b s (W19.setCell ⟨q, 3, none⟩ (.string ⟨qu.toArray⟩)) k3 ⟨sc, [], pa, qu, [], hs0, false, true, false⟩ := kk3.out ▸ g20
      cases hf
      · have B4 := hide (begS b s k3 ⟨#[35]⟩ (W19.setCell ⟨q, 3, none⟩ (.string ⟨qu.toArray⟩)) w r p q ⟨sc, [], pa, qu, [], hs0, false, true, false⟩ g_20 kl3.out false b4.out)
        refine B4.out.mono ?_
        rintro e W21 ⟨rfl, g21⟩
        have FE : Hid (fr = []) := x4.out.trans (if_neg (by simp))
        have pp := g21.ptr.cell
        have d : W21.cell? ⟨q, 8, none⟩ = some (.bool false) := g21.url.cell 8
        have f := g21.url.free 8
        have o := g21.own_set 8 (by decide)
        have g22 : Sp w r p q b s (W21.setCell ⟨q, 8, none⟩ (.bool false)) k3 ⟨sc, [], pa, qu, [], hs0, false, true, false⟩ := g21.put (g21.url.set8 false)
        have u0 : (W21.setCell ⟨q, 8, none⟩ (.bool false)).cell? ⟨q, 0, none⟩ = some (.string ⟨(sc : List UInt8).toArray⟩) := g22.url.cell 0
        have r0 : (W21.setCell ⟨q, 8, none⟩ (.bool false)).cell? ⟨r, 0, none⟩ = some (.string ⟨([] : List UInt8).toArray⟩) := g22.res.cell 0
        have z0 := g22.res.free 0
        have u1 : (W21.setCell ⟨q, 8, none⟩ (.bool false)).cell? ⟨q, 1, none⟩ = some (.string ⟨([] : List UInt8).toArray⟩) := g22.url.cell 1
        have r1 : (W21.setCell ⟨q, 8, none⟩ (.bool false)).cell? ⟨r, 1, none⟩ = some (.string ⟨([] : List UInt8).toArray⟩) := g22.res.cell 1
        have z1 := g22.res.free 1
        have u2 : (W21.setCell ⟨q, 8, none⟩ (.bool false)).cell? ⟨q, 2, none⟩ = some (.string ⟨(pa : List UInt8).toArray⟩) := g22.url.cell 2
        have r2 : (W21.setCell ⟨q, 8, none⟩ (.bool false)).cell? ⟨r, 2, none⟩ = some (.string ⟨([] : List UInt8).toArray⟩) := g22.res.cell 2
        have z2 := g22.res.free 2
        have u3 : (W21.setCell ⟨q, 8, none⟩ (.bool false)).cell? ⟨q, 3, none⟩ = some (.string ⟨(qu : List UInt8).toArray⟩) := g22.url.cell 3
        have r3 : (W21.setCell ⟨q, 8, none⟩ (.bool false)).cell? ⟨r, 3, none⟩ = some (.string ⟨([] : List UInt8).toArray⟩) := g22.res.cell 3
        have z3 := g22.res.free 3
        have u4 : (W21.setCell ⟨q, 8, none⟩ (.bool false)).cell? ⟨q, 4, none⟩ = some (.string ⟨([] : List UInt8).toArray⟩) := g22.url.cell 4
        have r4 : (W21.setCell ⟨q, 8, none⟩ (.bool false)).cell? ⟨r, 4, none⟩ = some (.string ⟨([] : List UInt8).toArray⟩) := g22.res.cell 4
        have z4 := g22.res.free 4
        have u5 : (W21.setCell ⟨q, 8, none⟩ (.bool false)).cell? ⟨q, 5, none⟩ = some (.bool hs0) := g22.url.cell 5
        have r5 : (W21.setCell ⟨q, 8, none⟩ (.bool false)).cell? ⟨r, 5, none⟩ = some (.bool false) := g22.res.cell 5
        have z5 := g22.res.free 5
        have u6 : (W21.setCell ⟨q, 8, none⟩ (.bool false)).cell? ⟨q, 6, none⟩ = some (.bool false) := g22.url.cell 6
        have r6 : (W21.setCell ⟨q, 8, none⟩ (.bool false)).cell? ⟨r, 6, none⟩ = some (.bool false) := g22.res.cell 6
        have z6 := g22.res.free 6
        have u7 : (W21.setCell ⟨q, 8, none⟩ (.bool false)).cell? ⟨q, 7, none⟩ = some (.bool true) := g22.url.cell 7
        have r7 : (W21.setCell ⟨q, 8, none⟩ (.bool false)).cell? ⟨r, 7, none⟩ = some (.bool false) := g22.res.cell 7
        have z7 := g22.res.free 7
        have u8 : (W21.setCell ⟨q, 8, none⟩ (.bool false)).cell? ⟨q, 8, none⟩ = some (.bool false) := g22.url.cell 8
        have r8 : (W21.setCell ⟨q, 8, none⟩ (.bool false)).cell? ⟨r, 8, none⟩ = some (.bool false) := g22.res.cell 8
        have z8 := g22.res.free 8
        go_wp2_with fail
        exact end12 rfl (((((((((g22.res.set0 sc).set1 []).set2 pa).set3 qu).set4 []).set5 hs0).set6 false).set7 true).set8 false) (HA2.out.trans (by rw [AE.out, FE.out])) (keeps9 g22.keeps g22.rw _ _ _ _ _ _ _ _ _)
      · have B4 := hide (begS b s k3 ⟨#[35]⟩ (W19.setCell ⟨q, 3, none⟩ (.string ⟨qu.toArray⟩)) w r p q ⟨sc, [], pa, qu, [], hs0, false, true, false⟩ g_20 kl3.out true b4.out)
        refine B4.out.mono ?_
        rintro e W23 ⟨rfl, g23⟩
        have pp := g23.ptr.cell
        have ps := g23.ptr_set 8
        have d : W23.cell? ⟨q, 8, none⟩ = some (.bool false) := g23.url.cell 8
        have f := g23.url.free 8
        have o := g23.own_set 8 (by decide)
        go_wp2_with fail
        clear pp ps d f o
        have g24 : Sp w r p q b s (W23.setCell ⟨q, 8, none⟩ (.bool true)) k3 ⟨sc, [], pa, qu, [], hs0, false, true, true⟩ := g23.put (g23.url.set8 true)
        have lt4 : k3 < s.size := by have := st_lt b4.out (by decide); simp only [List.length_cons, List.length_nil] at this; omega
        refine (oneS b s k3 (W23.setCell ⟨q, 8, none⟩ (.bool true)) w r p q ⟨sc, [], pa, qu, [], hs0, false, true, true⟩ g24 hs lt4).mono ?_
        rintro e W25 ⟨rfl, g25⟩
        have pp := g25.ptr.cell
        go_wp2_with fail
        refine (restS b s (k3 + 1) W25 w r p q ⟨sc, [], pa, qu, [], hs0, false, true, true⟩ g25 (by omega) fr (x4.out.trans (if_pos (by simp))).symm).mono ?_
        rintro e W26 ⟨rfl, g26⟩
        have pp := g26.ptr.cell
        have d : W26.cell? ⟨q, 4, none⟩ = some (.string ⟨([] : List UInt8).toArray⟩) := g26.url.cell 4
        have f := g26.url.free 4
        have o := g26.own_set 4 (by decide)
        have g27 : Sp w r p q b s (W26.setCell ⟨q, 4, none⟩ (.string ⟨fr.toArray⟩)) s.size ⟨sc, [], pa, qu, fr, hs0, false, true, true⟩ := g26.put (g26.url.set4 fr)
        have u0 : (W26.setCell ⟨q, 4, none⟩ (.string ⟨fr.toArray⟩)).cell? ⟨q, 0, none⟩ = some (.string ⟨(sc : List UInt8).toArray⟩) := g27.url.cell 0
        have r0 : (W26.setCell ⟨q, 4, none⟩ (.string ⟨fr.toArray⟩)).cell? ⟨r, 0, none⟩ = some (.string ⟨([] : List UInt8).toArray⟩) := g27.res.cell 0
        have z0 := g27.res.free 0
        have u1 : (W26.setCell ⟨q, 4, none⟩ (.string ⟨fr.toArray⟩)).cell? ⟨q, 1, none⟩ = some (.string ⟨([] : List UInt8).toArray⟩) := g27.url.cell 1
        have r1 : (W26.setCell ⟨q, 4, none⟩ (.string ⟨fr.toArray⟩)).cell? ⟨r, 1, none⟩ = some (.string ⟨([] : List UInt8).toArray⟩) := g27.res.cell 1
        have z1 := g27.res.free 1
        have u2 : (W26.setCell ⟨q, 4, none⟩ (.string ⟨fr.toArray⟩)).cell? ⟨q, 2, none⟩ = some (.string ⟨(pa : List UInt8).toArray⟩) := g27.url.cell 2
        have r2 : (W26.setCell ⟨q, 4, none⟩ (.string ⟨fr.toArray⟩)).cell? ⟨r, 2, none⟩ = some (.string ⟨([] : List UInt8).toArray⟩) := g27.res.cell 2
        have z2 := g27.res.free 2
        have u3 : (W26.setCell ⟨q, 4, none⟩ (.string ⟨fr.toArray⟩)).cell? ⟨q, 3, none⟩ = some (.string ⟨(qu : List UInt8).toArray⟩) := g27.url.cell 3
        have r3 : (W26.setCell ⟨q, 4, none⟩ (.string ⟨fr.toArray⟩)).cell? ⟨r, 3, none⟩ = some (.string ⟨([] : List UInt8).toArray⟩) := g27.res.cell 3
        have z3 := g27.res.free 3
        have u4 : (W26.setCell ⟨q, 4, none⟩ (.string ⟨fr.toArray⟩)).cell? ⟨q, 4, none⟩ = some (.string ⟨(fr : List UInt8).toArray⟩) := g27.url.cell 4
        have r4 : (W26.setCell ⟨q, 4, none⟩ (.string ⟨fr.toArray⟩)).cell? ⟨r, 4, none⟩ = some (.string ⟨([] : List UInt8).toArray⟩) := g27.res.cell 4
        have z4 := g27.res.free 4
        have u5 : (W26.setCell ⟨q, 4, none⟩ (.string ⟨fr.toArray⟩)).cell? ⟨q, 5, none⟩ = some (.bool hs0) := g27.url.cell 5
        have r5 : (W26.setCell ⟨q, 4, none⟩ (.string ⟨fr.toArray⟩)).cell? ⟨r, 5, none⟩ = some (.bool false) := g27.res.cell 5
        have z5 := g27.res.free 5
        have u6 : (W26.setCell ⟨q, 4, none⟩ (.string ⟨fr.toArray⟩)).cell? ⟨q, 6, none⟩ = some (.bool false) := g27.url.cell 6
        have r6 : (W26.setCell ⟨q, 4, none⟩ (.string ⟨fr.toArray⟩)).cell? ⟨r, 6, none⟩ = some (.bool false) := g27.res.cell 6
        have z6 := g27.res.free 6
        have u7 : (W26.setCell ⟨q, 4, none⟩ (.string ⟨fr.toArray⟩)).cell? ⟨q, 7, none⟩ = some (.bool true) := g27.url.cell 7
        have r7 : (W26.setCell ⟨q, 4, none⟩ (.string ⟨fr.toArray⟩)).cell? ⟨r, 7, none⟩ = some (.bool false) := g27.res.cell 7
        have z7 := g27.res.free 7
        have u8 : (W26.setCell ⟨q, 4, none⟩ (.string ⟨fr.toArray⟩)).cell? ⟨q, 8, none⟩ = some (.bool true) := g27.url.cell 8
        have r8 : (W26.setCell ⟨q, 4, none⟩ (.string ⟨fr.toArray⟩)).cell? ⟨r, 8, none⟩ = some (.bool false) := g27.res.cell 8
        have z8 := g27.res.free 8
        go_wp2_with fail
        exact end12 rfl (((((((((g27.res.set0 sc).set1 []).set2 pa).set3 qu).set4 fr).set5 hs0).set6 false).set7 true).set8 true) (HA2.out.trans (by rw [AE.out])) (keeps9 g27.keeps g27.rw _ _ _ _ _ _ _ _ _)
  · have B1 := hide (begS b s k0 ⟨#[47, 47]⟩ (W1.setCell ⟨q, 5, none⟩ (.bool hs0)) w r p q ⟨sc, [], [], [], [], hs0, false, false, false⟩ g2 hk0le true b1.out)
    refine B1.out.mono ?_
    rintro e W28 ⟨rfl, g28⟩
    have pp := g28.ptr.cell
    have ps := g28.ptr_set 6
    have d : W28.cell? ⟨q, 6, none⟩ = some (.bool false) := g28.url.cell 6
    have f := g28.url.free 6
    have o := g28.own_set 6 (by decide)
    go_wp2_with fail
    clear pp ps d f o
    have g29 : Sp w r p q b s (W28.setCell ⟨q, 6, none⟩ (.bool true)) k0 ⟨sc, [], [], [], [], hs0, true, false, false⟩ := g28.put (g28.url.set6 true)
    have lt1 : k0 + 2 ≤ s.size := by have := st_lt b1.out (by decide); simp only [List.length_cons, List.length_nil] at this; omega
    have kk1 : Hid (k0 + 2 + au.length = k1) := (y1.out.trans (if_pos (by simp))).symm
    have kl1 : Hid (k1 ≤ s.size) := by have := tw.out authB (k0 + 2) (by omega); rw [← x1.out.trans (if_pos (by simp))] at this; rw [← kk1.out]; exact this
    refine (toS b s k0 ⟨#[47, 47]⟩ (W28.setCell ⟨q, 6, none⟩ (.bool true)) w r p q ⟨sc, [], [], [], [], hs0, true, false, false⟩ g29 hs (by decide) hk0le b1.out).mono ?_
    rintro e W30 ⟨rfl, g30⟩
    have pp := g30.ptr.cell
    go_wp2_with fail
    clear pp
    refine (upS b s (k0 + 2) ⟨#[47, 63, 35]⟩ authB ends1 W30 w r p q ⟨sc, [], [], [], [], hs0, true, false, false⟩ g30 hs (by omega) au (x1.out.trans (if_pos (by simp))).symm).mono ?_
    rintro e W31 ⟨rfl, g31⟩
    have pp := g31.ptr.cell
    have ps := g31.ptr_set 1
    have d : W31.cell? ⟨q, 1, none⟩ = some (.string ⟨([] : List UInt8).toArray⟩) := g31.url.cell 1
    have f := g31.url.free 1
    have o := g31.own_set 1 (by decide)
    go_wp2_with fail
    clear pp ps d f o
    have g32 : Sp w r p q b s (W31.setCell ⟨q, 1, none⟩ (.string ⟨au.toArray⟩)) (k0 + 2 + au.length) ⟨sc, au, [], [], [], hs0, true, false, false⟩ := g31.put (g31.url.set1 au)
    have hg32 : Sp w r p q b s (W31.setCell ⟨q, 1, none⟩ (.string ⟨au.toArray⟩)) k1 ⟨sc, au, [], [], [], hs0, true, false, false⟩ := kk1.out ▸ g32
    refine (upS b s k1 ⟨#[63, 35]⟩ pathB ends2 (W31.setCell ⟨q, 1, none⟩ (.string ⟨au.toArray⟩)) w r p q ⟨sc, au, [], [], [], hs0, true, false, false⟩ hg32 hs kl1.out pa x2.out).mono ?_
    rintro e W33 ⟨rfl, g33⟩
    rw [← y2.out] at g33
    have pp := g33.ptr.cell
    have ps := g33.ptr_set 2
    have d : W33.cell? ⟨q, 2, none⟩ = some (.string ⟨([] : List UInt8).toArray⟩) := g33.url.cell 2
    have f := g33.url.free 2
    have o := g33.own_set 2 (by decide)
    go_wp2_with fail
    clear pp ps d f o
    have g34 : Sp w r p q b s (W33.setCell ⟨q, 2, none⟩ (.string ⟨pa.toArray⟩)) k2 ⟨sc, au, pa, [], [], hs0, true, false, false⟩ := g33.put (g33.url.set2 pa)
    have kl2 : Hid (k2 ≤ s.size) := by have := tw.out pathB k1 kl1.out; rw [x2.out] at this; rw [y2.out]; exact this
    cases hq
    · have B3 := hide (begS b s k2 ⟨#[63]⟩ (W33.setCell ⟨q, 2, none⟩ (.string ⟨pa.toArray⟩)) w r p q ⟨sc, au, pa, [], [], hs0, true, false, false⟩ g34 kl2.out false b3.out)
      refine B3.out.mono ?_
      rintro e W35 ⟨rfl, g35⟩
      have qe : qu = [] := x3.out.trans (if_neg (by simp))
      have kk3 : Hid (k2 = k3) := (y3.out.trans (if_neg (by simp))).symm
      have kl3 : Hid (k3 ≤ s.size) := by rw [← kk3.out]; exact kl2.out
      have QE := hide qe
      clear qe
      have pp := g35.ptr.cell
      have ps := g35.ptr_set 7
      have d : W35.cell? ⟨q, 7, none⟩ = some (.bool false) := g35.url.cell 7
      have f := g35.url.free 7
      have o := g35.own_set 7 (by decide)
      go_wp2_with fail
      clear pp ps d f o
      have g36 : Sp w r p q b s (W35.setCell ⟨q, 7, none⟩ (.bool false)) k2 ⟨sc, au, pa, [], [], hs0, true, false, false⟩ := g35.put (g35.url.set7 false)
      have g_36 : Sp w r p q b s (W35.setCell ⟨q, 7, none⟩ (.bool false)) k3 ⟨sc, au, pa, [], [], hs0, true, false, false⟩ := kk3.out ▸ g36
      cases hf
      · have B4 := hide (begS b s k3 ⟨#[35]⟩ (W35.setCell ⟨q, 7, none⟩ (.bool false)) w r p q ⟨sc, au, pa, [], [], hs0, true, false, false⟩ g_36 kl3.out false b4.out)
        refine B4.out.mono ?_
        rintro e W37 ⟨rfl, g37⟩
        have FE : Hid (fr = []) := x4.out.trans (if_neg (by simp))
        have pp := g37.ptr.cell
        have d : W37.cell? ⟨q, 8, none⟩ = some (.bool false) := g37.url.cell 8
        have f := g37.url.free 8
        have o := g37.own_set 8 (by decide)
        have g38 : Sp w r p q b s (W37.setCell ⟨q, 8, none⟩ (.bool false)) k3 ⟨sc, au, pa, [], [], hs0, true, false, false⟩ := g37.put (g37.url.set8 false)
        have u0 : (W37.setCell ⟨q, 8, none⟩ (.bool false)).cell? ⟨q, 0, none⟩ = some (.string ⟨(sc : List UInt8).toArray⟩) := g38.url.cell 0
        have r0 : (W37.setCell ⟨q, 8, none⟩ (.bool false)).cell? ⟨r, 0, none⟩ = some (.string ⟨([] : List UInt8).toArray⟩) := g38.res.cell 0
        have z0 := g38.res.free 0
        have u1 : (W37.setCell ⟨q, 8, none⟩ (.bool false)).cell? ⟨q, 1, none⟩ = some (.string ⟨(au : List UInt8).toArray⟩) := g38.url.cell 1
        have r1 : (W37.setCell ⟨q, 8, none⟩ (.bool false)).cell? ⟨r, 1, none⟩ = some (.string ⟨([] : List UInt8).toArray⟩) := g38.res.cell 1
        have z1 := g38.res.free 1
        have u2 : (W37.setCell ⟨q, 8, none⟩ (.bool false)).cell? ⟨q, 2, none⟩ = some (.string ⟨(pa : List UInt8).toArray⟩) := g38.url.cell 2
        have r2 : (W37.setCell ⟨q, 8, none⟩ (.bool false)).cell? ⟨r, 2, none⟩ = some (.string ⟨([] : List UInt8).toArray⟩) := g38.res.cell 2
        have z2 := g38.res.free 2
        have u3 : (W37.setCell ⟨q, 8, none⟩ (.bool false)).cell? ⟨q, 3, none⟩ = some (.string ⟨([] : List UInt8).toArray⟩) := g38.url.cell 3
        have r3 : (W37.setCell ⟨q, 8, none⟩ (.bool false)).cell? ⟨r, 3, none⟩ = some (.string ⟨([] : List UInt8).toArray⟩) := g38.res.cell 3
        have z3 := g38.res.free 3
        have u4 : (W37.setCell ⟨q, 8, none⟩ (.bool false)).cell? ⟨q, 4, none⟩ = some (.string ⟨([] : List UInt8).toArray⟩) := g38.url.cell 4
        have r4 : (W37.setCell ⟨q, 8, none⟩ (.bool false)).cell? ⟨r, 4, none⟩ = some (.string ⟨([] : List UInt8).toArray⟩) := g38.res.cell 4
        have z4 := g38.res.free 4
        have u5 : (W37.setCell ⟨q, 8, none⟩ (.bool false)).cell? ⟨q, 5, none⟩ = some (.bool hs0) := g38.url.cell 5
        have r5 : (W37.setCell ⟨q, 8, none⟩ (.bool false)).cell? ⟨r, 5, none⟩ = some (.bool false) := g38.res.cell 5
        have z5 := g38.res.free 5
        have u6 : (W37.setCell ⟨q, 8, none⟩ (.bool false)).cell? ⟨q, 6, none⟩ = some (.bool true) := g38.url.cell 6
        have r6 : (W37.setCell ⟨q, 8, none⟩ (.bool false)).cell? ⟨r, 6, none⟩ = some (.bool false) := g38.res.cell 6
        have z6 := g38.res.free 6
        have u7 : (W37.setCell ⟨q, 8, none⟩ (.bool false)).cell? ⟨q, 7, none⟩ = some (.bool false) := g38.url.cell 7
        have r7 : (W37.setCell ⟨q, 8, none⟩ (.bool false)).cell? ⟨r, 7, none⟩ = some (.bool false) := g38.res.cell 7
        have z7 := g38.res.free 7
        have u8 : (W37.setCell ⟨q, 8, none⟩ (.bool false)).cell? ⟨q, 8, none⟩ = some (.bool false) := g38.url.cell 8
        have r8 : (W37.setCell ⟨q, 8, none⟩ (.bool false)).cell? ⟨r, 8, none⟩ = some (.bool false) := g38.res.cell 8
        have z8 := g38.res.free 8
        go_wp2_with fail
        exact end12 rfl (((((((((g38.res.set0 sc).set1 au).set2 pa).set3 []).set4 []).set5 hs0).set6 true).set7 false).set8 false) (HA2.out.trans (by rw [QE.out, FE.out])) (keeps9 g38.keeps g38.rw _ _ _ _ _ _ _ _ _)
      · have B4 := hide (begS b s k3 ⟨#[35]⟩ (W35.setCell ⟨q, 7, none⟩ (.bool false)) w r p q ⟨sc, au, pa, [], [], hs0, true, false, false⟩ g_36 kl3.out true b4.out)
        refine B4.out.mono ?_
        rintro e W39 ⟨rfl, g39⟩
        have pp := g39.ptr.cell
        have ps := g39.ptr_set 8
        have d : W39.cell? ⟨q, 8, none⟩ = some (.bool false) := g39.url.cell 8
        have f := g39.url.free 8
        have o := g39.own_set 8 (by decide)
        go_wp2_with fail
        clear pp ps d f o
        have g40 : Sp w r p q b s (W39.setCell ⟨q, 8, none⟩ (.bool true)) k3 ⟨sc, au, pa, [], [], hs0, true, false, true⟩ := g39.put (g39.url.set8 true)
        have lt4 : k3 < s.size := by have := st_lt b4.out (by decide); simp only [List.length_cons, List.length_nil] at this; omega
        refine (oneS b s k3 (W39.setCell ⟨q, 8, none⟩ (.bool true)) w r p q ⟨sc, au, pa, [], [], hs0, true, false, true⟩ g40 hs lt4).mono ?_
        rintro e W41 ⟨rfl, g41⟩
        have pp := g41.ptr.cell
        go_wp2_with fail
        refine (restS b s (k3 + 1) W41 w r p q ⟨sc, au, pa, [], [], hs0, true, false, true⟩ g41 (by omega) fr (x4.out.trans (if_pos (by simp))).symm).mono ?_
        rintro e W42 ⟨rfl, g42⟩
        have pp := g42.ptr.cell
        have d : W42.cell? ⟨q, 4, none⟩ = some (.string ⟨([] : List UInt8).toArray⟩) := g42.url.cell 4
        have f := g42.url.free 4
        have o := g42.own_set 4 (by decide)
        have g43 : Sp w r p q b s (W42.setCell ⟨q, 4, none⟩ (.string ⟨fr.toArray⟩)) s.size ⟨sc, au, pa, [], fr, hs0, true, false, true⟩ := g42.put (g42.url.set4 fr)
        have u0 : (W42.setCell ⟨q, 4, none⟩ (.string ⟨fr.toArray⟩)).cell? ⟨q, 0, none⟩ = some (.string ⟨(sc : List UInt8).toArray⟩) := g43.url.cell 0
        have r0 : (W42.setCell ⟨q, 4, none⟩ (.string ⟨fr.toArray⟩)).cell? ⟨r, 0, none⟩ = some (.string ⟨([] : List UInt8).toArray⟩) := g43.res.cell 0
        have z0 := g43.res.free 0
        have u1 : (W42.setCell ⟨q, 4, none⟩ (.string ⟨fr.toArray⟩)).cell? ⟨q, 1, none⟩ = some (.string ⟨(au : List UInt8).toArray⟩) := g43.url.cell 1
        have r1 : (W42.setCell ⟨q, 4, none⟩ (.string ⟨fr.toArray⟩)).cell? ⟨r, 1, none⟩ = some (.string ⟨([] : List UInt8).toArray⟩) := g43.res.cell 1
        have z1 := g43.res.free 1
        have u2 : (W42.setCell ⟨q, 4, none⟩ (.string ⟨fr.toArray⟩)).cell? ⟨q, 2, none⟩ = some (.string ⟨(pa : List UInt8).toArray⟩) := g43.url.cell 2
        have r2 : (W42.setCell ⟨q, 4, none⟩ (.string ⟨fr.toArray⟩)).cell? ⟨r, 2, none⟩ = some (.string ⟨([] : List UInt8).toArray⟩) := g43.res.cell 2
        have z2 := g43.res.free 2
        have u3 : (W42.setCell ⟨q, 4, none⟩ (.string ⟨fr.toArray⟩)).cell? ⟨q, 3, none⟩ = some (.string ⟨([] : List UInt8).toArray⟩) := g43.url.cell 3
        have r3 : (W42.setCell ⟨q, 4, none⟩ (.string ⟨fr.toArray⟩)).cell? ⟨r, 3, none⟩ = some (.string ⟨([] : List UInt8).toArray⟩) := g43.res.cell 3
        have z3 := g43.res.free 3
        have u4 : (W42.setCell ⟨q, 4, none⟩ (.string ⟨fr.toArray⟩)).cell? ⟨q, 4, none⟩ = some (.string ⟨(fr : List UInt8).toArray⟩) := g43.url.cell 4
        have r4 : (W42.setCell ⟨q, 4, none⟩ (.string ⟨fr.toArray⟩)).cell? ⟨r, 4, none⟩ = some (.string ⟨([] : List UInt8).toArray⟩) := g43.res.cell 4
        have z4 := g43.res.free 4
        have u5 : (W42.setCell ⟨q, 4, none⟩ (.string ⟨fr.toArray⟩)).cell? ⟨q, 5, none⟩ = some (.bool hs0) := g43.url.cell 5
        have r5 : (W42.setCell ⟨q, 4, none⟩ (.string ⟨fr.toArray⟩)).cell? ⟨r, 5, none⟩ = some (.bool false) := g43.res.cell 5
        have z5 := g43.res.free 5
        have u6 : (W42.setCell ⟨q, 4, none⟩ (.string ⟨fr.toArray⟩)).cell? ⟨q, 6, none⟩ = some (.bool true) := g43.url.cell 6
        have r6 : (W42.setCell ⟨q, 4, none⟩ (.string ⟨fr.toArray⟩)).cell? ⟨r, 6, none⟩ = some (.bool false) := g43.res.cell 6
        have z6 := g43.res.free 6
        have u7 : (W42.setCell ⟨q, 4, none⟩ (.string ⟨fr.toArray⟩)).cell? ⟨q, 7, none⟩ = some (.bool false) := g43.url.cell 7
        have r7 : (W42.setCell ⟨q, 4, none⟩ (.string ⟨fr.toArray⟩)).cell? ⟨r, 7, none⟩ = some (.bool false) := g43.res.cell 7
        have z7 := g43.res.free 7
        have u8 : (W42.setCell ⟨q, 4, none⟩ (.string ⟨fr.toArray⟩)).cell? ⟨q, 8, none⟩ = some (.bool true) := g43.url.cell 8
        have r8 : (W42.setCell ⟨q, 4, none⟩ (.string ⟨fr.toArray⟩)).cell? ⟨r, 8, none⟩ = some (.bool false) := g43.res.cell 8
        have z8 := g43.res.free 8
        go_wp2_with fail
        exact end12 rfl (((((((((g43.res.set0 sc).set1 au).set2 pa).set3 []).set4 fr).set5 hs0).set6 true).set7 false).set8 true) (HA2.out.trans (by rw [QE.out])) (keeps9 g43.keeps g43.rw _ _ _ _ _ _ _ _ _)
    · have B3 := hide (begS b s k2 ⟨#[63]⟩ (W33.setCell ⟨q, 2, none⟩ (.string ⟨pa.toArray⟩)) w r p q ⟨sc, au, pa, [], [], hs0, true, false, false⟩ g34 kl2.out true b3.out)
      refine B3.out.mono ?_
      rintro e W44 ⟨rfl, g44⟩
      have pp := g44.ptr.cell
      have ps := g44.ptr_set 7
      have d : W44.cell? ⟨q, 7, none⟩ = some (.bool false) := g44.url.cell 7
      have f := g44.url.free 7
      have o := g44.own_set 7 (by decide)
      go_wp2_with fail
      clear pp ps d f o
      have g45 : Sp w r p q b s (W44.setCell ⟨q, 7, none⟩ (.bool true)) k2 ⟨sc, au, pa, [], [], hs0, true, true, false⟩ := g44.put (g44.url.set7 true)
      have lt3 : k2 < s.size := by have := st_lt b3.out (by decide); simp only [List.length_cons, List.length_nil] at this; omega
      have kk3 : Hid (k2 + 1 + qu.length = k3) := (y3.out.trans (if_pos (by simp))).symm
      have kl3 : Hid (k3 ≤ s.size) := by have := tw.out queryB (k2 + 1) (by omega); rw [← x3.out.trans (if_pos (by simp))] at this; rw [← kk3.out]; exact this
      refine (oneS b s k2 (W44.setCell ⟨q, 7, none⟩ (.bool true)) w r p q ⟨sc, au, pa, [], [], hs0, true, true, false⟩ g45 hs lt3).mono ?_
      rintro e W46 ⟨rfl, g46⟩
      have pp := g46.ptr.cell
      go_wp2_with fail
      clear pp
      refine (upS b s (k2 + 1) ⟨#[35]⟩ queryB ends3 W46 w r p q ⟨sc, au, pa, [], [], hs0, true, true, false⟩ g46 hs (by omega) qu (x3.out.trans (if_pos (by simp))).symm).mono ?_
      rintro e W47 ⟨rfl, g47⟩
      have pp := g47.ptr.cell
      have ps := g47.ptr_set 3
      have d : W47.cell? ⟨q, 3, none⟩ = some (.string ⟨([] : List UInt8).toArray⟩) := g47.url.cell 3
      have f := g47.url.free 3
      have o := g47.own_set 3 (by decide)
      go_wp2_with fail
      clear pp ps d f o
      have g48 : Sp w r p q b s (W47.setCell ⟨q, 3, none⟩ (.string ⟨qu.toArray⟩)) (k2 + 1 + qu.length) ⟨sc, au, pa, qu, [], hs0, true, true, false⟩ := g47.put (g47.url.set3 qu)
      have g_48 : Sp w r p q b s (W47.setCell ⟨q, 3, none⟩ (.string ⟨qu.toArray⟩)) k3 ⟨sc, au, pa, qu, [], hs0, true, true, false⟩ := kk3.out ▸ g48
      cases hf
      · have B4 := hide (begS b s k3 ⟨#[35]⟩ (W47.setCell ⟨q, 3, none⟩ (.string ⟨qu.toArray⟩)) w r p q ⟨sc, au, pa, qu, [], hs0, true, true, false⟩ g_48 kl3.out false b4.out)
        refine B4.out.mono ?_
        rintro e W49 ⟨rfl, g49⟩
        have FE : Hid (fr = []) := x4.out.trans (if_neg (by simp))
        have pp := g49.ptr.cell
        have d : W49.cell? ⟨q, 8, none⟩ = some (.bool false) := g49.url.cell 8
        have f := g49.url.free 8
        have o := g49.own_set 8 (by decide)
        have g50 : Sp w r p q b s (W49.setCell ⟨q, 8, none⟩ (.bool false)) k3 ⟨sc, au, pa, qu, [], hs0, true, true, false⟩ := g49.put (g49.url.set8 false)
        have u0 : (W49.setCell ⟨q, 8, none⟩ (.bool false)).cell? ⟨q, 0, none⟩ = some (.string ⟨(sc : List UInt8).toArray⟩) := g50.url.cell 0
        have r0 : (W49.setCell ⟨q, 8, none⟩ (.bool false)).cell? ⟨r, 0, none⟩ = some (.string ⟨([] : List UInt8).toArray⟩) := g50.res.cell 0
        have z0 := g50.res.free 0
        have u1 : (W49.setCell ⟨q, 8, none⟩ (.bool false)).cell? ⟨q, 1, none⟩ = some (.string ⟨(au : List UInt8).toArray⟩) := g50.url.cell 1
        have r1 : (W49.setCell ⟨q, 8, none⟩ (.bool false)).cell? ⟨r, 1, none⟩ = some (.string ⟨([] : List UInt8).toArray⟩) := g50.res.cell 1
        have z1 := g50.res.free 1
        have u2 : (W49.setCell ⟨q, 8, none⟩ (.bool false)).cell? ⟨q, 2, none⟩ = some (.string ⟨(pa : List UInt8).toArray⟩) := g50.url.cell 2
        have r2 : (W49.setCell ⟨q, 8, none⟩ (.bool false)).cell? ⟨r, 2, none⟩ = some (.string ⟨([] : List UInt8).toArray⟩) := g50.res.cell 2
        have z2 := g50.res.free 2
        have u3 : (W49.setCell ⟨q, 8, none⟩ (.bool false)).cell? ⟨q, 3, none⟩ = some (.string ⟨(qu : List UInt8).toArray⟩) := g50.url.cell 3
        have r3 : (W49.setCell ⟨q, 8, none⟩ (.bool false)).cell? ⟨r, 3, none⟩ = some (.string ⟨([] : List UInt8).toArray⟩) := g50.res.cell 3
        have z3 := g50.res.free 3
        have u4 : (W49.setCell ⟨q, 8, none⟩ (.bool false)).cell? ⟨q, 4, none⟩ = some (.string ⟨([] : List UInt8).toArray⟩) := g50.url.cell 4
        have r4 : (W49.setCell ⟨q, 8, none⟩ (.bool false)).cell? ⟨r, 4, none⟩ = some (.string ⟨([] : List UInt8).toArray⟩) := g50.res.cell 4
        have z4 := g50.res.free 4
        have u5 : (W49.setCell ⟨q, 8, none⟩ (.bool false)).cell? ⟨q, 5, none⟩ = some (.bool hs0) := g50.url.cell 5
        have r5 : (W49.setCell ⟨q, 8, none⟩ (.bool false)).cell? ⟨r, 5, none⟩ = some (.bool false) := g50.res.cell 5
        have z5 := g50.res.free 5
        have u6 : (W49.setCell ⟨q, 8, none⟩ (.bool false)).cell? ⟨q, 6, none⟩ = some (.bool true) := g50.url.cell 6
        have r6 : (W49.setCell ⟨q, 8, none⟩ (.bool false)).cell? ⟨r, 6, none⟩ = some (.bool false) := g50.res.cell 6
        have z6 := g50.res.free 6
        have u7 : (W49.setCell ⟨q, 8, none⟩ (.bool false)).cell? ⟨q, 7, none⟩ = some (.bool true) := g50.url.cell 7
        have r7 : (W49.setCell ⟨q, 8, none⟩ (.bool false)).cell? ⟨r, 7, none⟩ = some (.bool false) := g50.res.cell 7
        have z7 := g50.res.free 7
        have u8 : (W49.setCell ⟨q, 8, none⟩ (.bool false)).cell? ⟨q, 8, none⟩ = some (.bool false) := g50.url.cell 8
        have r8 : (W49.setCell ⟨q, 8, none⟩ (.bool false)).cell? ⟨r, 8, none⟩ = some (.bool false) := g50.res.cell 8
        have z8 := g50.res.free 8
        go_wp2_with fail
        exact end12 rfl (((((((((g50.res.set0 sc).set1 au).set2 pa).set3 qu).set4 []).set5 hs0).set6 true).set7 true).set8 false) (HA2.out.trans (by rw [FE.out])) (keeps9 g50.keeps g50.rw _ _ _ _ _ _ _ _ _)
      · have B4 := hide (begS b s k3 ⟨#[35]⟩ (W47.setCell ⟨q, 3, none⟩ (.string ⟨qu.toArray⟩)) w r p q ⟨sc, au, pa, qu, [], hs0, true, true, false⟩ g_48 kl3.out true b4.out)
        refine B4.out.mono ?_
        rintro e W51 ⟨rfl, g51⟩
        have pp := g51.ptr.cell
        have ps := g51.ptr_set 8
        have d : W51.cell? ⟨q, 8, none⟩ = some (.bool false) := g51.url.cell 8
        have f := g51.url.free 8
        have o := g51.own_set 8 (by decide)
        go_wp2_with fail
        clear pp ps d f o
        have g52 : Sp w r p q b s (W51.setCell ⟨q, 8, none⟩ (.bool true)) k3 ⟨sc, au, pa, qu, [], hs0, true, true, true⟩ := g51.put (g51.url.set8 true)
        have lt4 : k3 < s.size := by have := st_lt b4.out (by decide); simp only [List.length_cons, List.length_nil] at this; omega
        refine (oneS b s k3 (W51.setCell ⟨q, 8, none⟩ (.bool true)) w r p q ⟨sc, au, pa, qu, [], hs0, true, true, true⟩ g52 hs lt4).mono ?_
        rintro e W53 ⟨rfl, g53⟩
        have pp := g53.ptr.cell
        go_wp2_with fail
        refine (restS b s (k3 + 1) W53 w r p q ⟨sc, au, pa, qu, [], hs0, true, true, true⟩ g53 (by omega) fr (x4.out.trans (if_pos (by simp))).symm).mono ?_
        rintro e W54 ⟨rfl, g54⟩
        have pp := g54.ptr.cell
        have d : W54.cell? ⟨q, 4, none⟩ = some (.string ⟨([] : List UInt8).toArray⟩) := g54.url.cell 4
        have f := g54.url.free 4
        have o := g54.own_set 4 (by decide)
        have g55 : Sp w r p q b s (W54.setCell ⟨q, 4, none⟩ (.string ⟨fr.toArray⟩)) s.size ⟨sc, au, pa, qu, fr, hs0, true, true, true⟩ := g54.put (g54.url.set4 fr)
        have u0 : (W54.setCell ⟨q, 4, none⟩ (.string ⟨fr.toArray⟩)).cell? ⟨q, 0, none⟩ = some (.string ⟨(sc : List UInt8).toArray⟩) := g55.url.cell 0
        have r0 : (W54.setCell ⟨q, 4, none⟩ (.string ⟨fr.toArray⟩)).cell? ⟨r, 0, none⟩ = some (.string ⟨([] : List UInt8).toArray⟩) := g55.res.cell 0
        have z0 := g55.res.free 0
        have u1 : (W54.setCell ⟨q, 4, none⟩ (.string ⟨fr.toArray⟩)).cell? ⟨q, 1, none⟩ = some (.string ⟨(au : List UInt8).toArray⟩) := g55.url.cell 1
        have r1 : (W54.setCell ⟨q, 4, none⟩ (.string ⟨fr.toArray⟩)).cell? ⟨r, 1, none⟩ = some (.string ⟨([] : List UInt8).toArray⟩) := g55.res.cell 1
        have z1 := g55.res.free 1
        have u2 : (W54.setCell ⟨q, 4, none⟩ (.string ⟨fr.toArray⟩)).cell? ⟨q, 2, none⟩ = some (.string ⟨(pa : List UInt8).toArray⟩) := g55.url.cell 2
        have r2 : (W54.setCell ⟨q, 4, none⟩ (.string ⟨fr.toArray⟩)).cell? ⟨r, 2, none⟩ = some (.string ⟨([] : List UInt8).toArray⟩) := g55.res.cell 2
        have z2 := g55.res.free 2
        have u3 : (W54.setCell ⟨q, 4, none⟩ (.string ⟨fr.toArray⟩)).cell? ⟨q, 3, none⟩ = some (.string ⟨(qu : List UInt8).toArray⟩) := g55.url.cell 3
        have r3 : (W54.setCell ⟨q, 4, none⟩ (.string ⟨fr.toArray⟩)).cell? ⟨r, 3, none⟩ = some (.string ⟨([] : List UInt8).toArray⟩) := g55.res.cell 3
        have z3 := g55.res.free 3
        have u4 : (W54.setCell ⟨q, 4, none⟩ (.string ⟨fr.toArray⟩)).cell? ⟨q, 4, none⟩ = some (.string ⟨(fr : List UInt8).toArray⟩) := g55.url.cell 4
        have r4 : (W54.setCell ⟨q, 4, none⟩ (.string ⟨fr.toArray⟩)).cell? ⟨r, 4, none⟩ = some (.string ⟨([] : List UInt8).toArray⟩) := g55.res.cell 4
        have z4 := g55.res.free 4
        have u5 : (W54.setCell ⟨q, 4, none⟩ (.string ⟨fr.toArray⟩)).cell? ⟨q, 5, none⟩ = some (.bool hs0) := g55.url.cell 5
        have r5 : (W54.setCell ⟨q, 4, none⟩ (.string ⟨fr.toArray⟩)).cell? ⟨r, 5, none⟩ = some (.bool false) := g55.res.cell 5
        have z5 := g55.res.free 5
        have u6 : (W54.setCell ⟨q, 4, none⟩ (.string ⟨fr.toArray⟩)).cell? ⟨q, 6, none⟩ = some (.bool true) := g55.url.cell 6
        have r6 : (W54.setCell ⟨q, 4, none⟩ (.string ⟨fr.toArray⟩)).cell? ⟨r, 6, none⟩ = some (.bool false) := g55.res.cell 6
        have z6 := g55.res.free 6
        have u7 : (W54.setCell ⟨q, 4, none⟩ (.string ⟨fr.toArray⟩)).cell? ⟨q, 7, none⟩ = some (.bool true) := g55.url.cell 7
        have r7 : (W54.setCell ⟨q, 4, none⟩ (.string ⟨fr.toArray⟩)).cell? ⟨r, 7, none⟩ = some (.bool false) := g55.res.cell 7
        have z7 := g55.res.free 7
        have u8 : (W54.setCell ⟨q, 4, none⟩ (.string ⟨fr.toArray⟩)).cell? ⟨q, 8, none⟩ = some (.bool true) := g55.url.cell 8
        have r8 : (W54.setCell ⟨q, 4, none⟩ (.string ⟨fr.toArray⟩)).cell? ⟨r, 8, none⟩ = some (.bool false) := g55.res.cell 8
        have z8 := g55.res.free 8
        go_wp2_with fail
        exact end12 rfl (((((((((g55.res.set0 sc).set1 au).set2 pa).set3 qu).set4 fr).set5 hs0).set6 true).set7 true).set8 true) HA2.out (keeps9 g55.keeps g55.rw _ _ _ _ _ _ _ _ _)
theorem end6 {tmps : Array Value} {W w : World} {r : Nat} {u A : UrlT} {e : Int} (hp : tmps.getD 2 undef = .pointer (some ⟨r, 0, none⟩)) (he : tmps.getD 3 undef = .int .i64 e) (hU : IsUrl W r u) (hA : A = u) (hk : Keeps [] w W) :
    bodyPost Tryz.prog Tryz.f71 (fun x w' => x = .returned (.tuple #[urlV A, .int .i64 e]) ∧ Keeps [] w w') Exit.ret { tmps := tmps, defers := [] } W := by
  subst hA
  refine ⟨rfl, .tuple #[urlV A, .int .i64 e], ?_, rfl, hk⟩
  have hp' : tmps[2]?.getD undef = .pointer (some ⟨r, 0, none⟩) := by simpa using hp
  have he' : tmps[3]?.getD undef = .int .i64 e := by simpa using he
  rw [results_cell_tmp (p := 2) (u := 3) (ty := 99) rfl]
  simp [asAddr, hp', he', load23 hU, Result.andThen]
theorem split_long (s : ByteArray) (w : World) (hm : s.size ≤ maxLen) (h : 3000 < s.size) :
    Calls Tryz.prog 71 #[.string s] w fun e w' => e = .returned (.tuple #[urlV noUrl, .int .i64 2]) ∧ Keeps [] w w' := by
  unfold maxLen at hm
  have hka : Keeps [] w (w.alloc (.cells #[.string ⟨#[]⟩, .string ⟨#[]⟩, .string ⟨#[]⟩, .string ⟨#[]⟩, .string ⟨#[]⟩, .bool false, .bool false, .bool false, .bool false] 99)) := (Keeps.refl [] w).alloc _
  have hR : IsUrl (w.alloc (.cells #[.string ⟨#[]⟩, .string ⟨#[]⟩, .string ⟨#[]⟩, .string ⟨#[]⟩, .string ⟨#[]⟩, .bool false, .bool false, .bool false, .bool false] 99)) w.heap.size noUrl := heap_alloc_new _ _
  have hgt : decide ((3000 : Int) < (s.size : Int)) = true := by simp; omega
  have HR := hide hR
  go_enter Tryz.func71, Tryz.ntmps71
  go_wp2_with fail
  exact end6 rfl rfl HR.out rfl hka
set_option maxHeartbeats 1000000 in
theorem split_short (s : ByteArray) (w : World) (h : ¬ 3000 < s.size) (hM : HasMax w) :
    Calls Tryz.prog 71 #[.string s] w fun e w' => e = .returned (.tuple #[urlV (splitL s.data.toList), .int .i64 0]) ∧ Keeps [] w w' := by
  have hka : Keeps [] w (w.alloc (.cells #[.string ⟨#[]⟩, .string ⟨#[]⟩, .string ⟨#[]⟩, .string ⟨#[]⟩, .string ⟨#[]⟩, .bool false, .bool false, .bool false, .bool false] 99)) := (Keeps.refl [] w).alloc _
  have hR : IsUrl (w.alloc (.cells #[.string ⟨#[]⟩, .string ⟨#[]⟩, .string ⟨#[]⟩, .string ⟨#[]⟩, .string ⟨#[]⟩, .bool false, .bool false, .bool false, .bool false] 99)) w.heap.size noUrl := heap_alloc_new _ _
  have hM' := hM.keeps hka (by simp)
  have hgt : decide ((3000 : Int) < (s.size : Int)) = false := by simp; omega
  have hsp := hide (split_any s _ (by omega) hM')
  generalize splitL s.data.toList = A at *
  go_enter Tryz.func71, Tryz.ntmps71
  go_wp2_with fail
  refine hsp.out.mono ?_
  rintro e w1 ⟨rfl, hk1⟩
  have hR1 := hR.keeps hk1 (by simp)
  have hk2 := hka.trans hk1
  unfold urlV urlCells
  have r0 : w1.cell? ⟨w.heap.size, 0, none⟩ = some (.string ⟨([] : List UInt8).toArray⟩) := hR1.cell 0
  have r1 : w1.cell? ⟨w.heap.size, 1, none⟩ = some (.string ⟨([] : List UInt8).toArray⟩) := hR1.cell 1
  have r2 : w1.cell? ⟨w.heap.size, 2, none⟩ = some (.string ⟨([] : List UInt8).toArray⟩) := hR1.cell 2
  have r3 : w1.cell? ⟨w.heap.size, 3, none⟩ = some (.string ⟨([] : List UInt8).toArray⟩) := hR1.cell 3
  have r4 : w1.cell? ⟨w.heap.size, 4, none⟩ = some (.string ⟨([] : List UInt8).toArray⟩) := hR1.cell 4
  have r5 : w1.cell? ⟨w.heap.size, 5, none⟩ = some (.bool false) := hR1.cell 5
  have r6 : w1.cell? ⟨w.heap.size, 6, none⟩ = some (.bool false) := hR1.cell 6
  have r7 : w1.cell? ⟨w.heap.size, 7, none⟩ = some (.bool false) := hR1.cell 7
  have r8 : w1.cell? ⟨w.heap.size, 8, none⟩ = some (.bool false) := hR1.cell 8
  have z0 := hR1.free 0
  have z1 := hR1.free 1
  have z2 := hR1.free 2
  have z3 := hR1.free 3
  have z4 := hR1.free 4
  have z5 := hR1.free 5
  have z6 := hR1.free 6
  have z7 := hR1.free 7
  have z8 := hR1.free 8
  go_wp2_with fail
  exact end6 rfl rfl (((((((((hR1.set0 A.scheme).set1 A.authority).set2 A.path).set3 A.query).set4 A.fragment).set5 A.hs).set6 A.ha).set7 A.hq).set8 A.hf) rfl (keeps9 hk2 (Nat.le_refl _) _ _ _ _ _ _ _ _ _)
theorem enters218 : Enters 218 := enters_of Tryz.func218 (by kernel_rfl) (by kernel_rfl)
theorem bld_newU (w : World) : IsBld w.heap.size w.heap.size [] (w.alloc (.cells #[.pointer none, .slice none 0 0] 134)) :=
  .inl ⟨Nat.le_refl _, .slice none 0 0, heap_alloc_new _ _, ⟨rfl, .inl ⟨rfl, rfl⟩⟩, by simp [Value.ownBlock]⟩
theorem join2 (x y : List UInt8) : Lib.join [x, y] [] = x ++ y := by simp [Lib.join, List.intercalate]
theorem join1 (x : List UInt8) : Lib.join [x] [] = x := by simp [Lib.join]
theorem put_anyU (has : Bool) (bk c : Nat) (xs : List ByteArray) (B b : Nat) (l F : List UInt8) (w : World) (hF : Lib.join (xs.map (·.data.toList)) [] = F) (hcells : ∀ (j : Nat) x, xs[j]? = some x → w.cell? ⟨bk, 0 + j, none⟩ = some (.string x)) (hbk : bk < w.heap.size) (n : Nat) (hn : xs.length = n) (hN : n ≤ 2) (hcap : n ≤ c)
    (h : IsBld B b l w) (hlen : l.length + F.length ≤ 1000000000) (hB : B ≤ w.heap.size) :
    Calls Tryz.prog 218 #[.bool has, .slice (some ⟨bk, 0, none⟩) n c, .pointer (some ⟨b, 0, none⟩)] w fun e w' => e = .returned (.tuple #[]) ∧ IsBld B b (l ++ if has = true then F else []) w' ∧ KeepsB B b w w' := by
  subst hn
  have hj := hide (Tryz.strings_Join bk 0 c xs ⟨#[]⟩ w hcells hbk (by omega) hcap (by
    have : (⟨#[]⟩ : ByteArray).data.toList = [] := rfl
    rw [this, hF]; omega))
  have e0 : (⟨#[]⟩ : ByteArray).data.toList = [] := rfl
  rw [e0, hF] at hj
  have H := hide h
  clear hcells hF e0 h
  cases has
  · go_enter Tryz.func218, Tryz.ntmps218
    go_wp2_with fail
    go_end0
    exact ⟨rfl, by simpa using H.out, KeepsB.refl _ _ _⟩
  · go_enter Tryz.func218, Tryz.ntmps218
    go_wp2_with fail
    refine hj.out.mono ?_
    rintro e w1 ⟨rfl, hb1⟩
    have hk1 : Keeps [] w w1 := Keeps.of_below hb1
    have h1 := H.out.keeps hk1
    go_wp2_with fail
    refine (write_all B b l F _ h1 (by omega) (by have := hk1.size; omega)).mono ?_
    rintro e w2 ⟨rfl, h2, hk2⟩
    go_wp2_with fail
    go_end0
    exact ⟨rfl, by simpa using h2, (KeepsB.of hk1).trans hk2⟩
theorem KeepsB.url {B b : Nat} {w w' : World} {q : Nat} {u : UrlT} (h : KeepsB B b w w') (hU : IsUrl w q u) (hq : q < B) (hb : q ≠ b) : IsUrl w' q u := by
  rw [IsUrl, h.block q hU.lt hb (.inl hq)]; exact hU
structure Jo (w : World) (x b : Nat) (u : UrlT) (W : World) (l : List UInt8) : Prop where
  url : IsUrl W x u
  bld : IsBld b b l W
  keeps : Keeps [] w W
  bw : w.heap.size ≤ b
  xb : x < b
  bW : b ≤ W.heap.size
theorem Jo.put2 {w : World} {x b : Nat} {u : UrlT} {W : World} {l : List UInt8} (h : Jo w x b u W l) (has : Bool) (p q : List UInt8) (hl : l.length + (p ++ q).length ≤ 1000000000) :
    Calls Tryz.prog 218 #[.bool has, .slice (some ⟨W.heap.size, 0, none⟩) 2 2, .pointer (some ⟨b, 0, none⟩)] (W.alloc (.cells #[.string ⟨p.toArray⟩, .string ⟨q.toArray⟩] 9)) fun e W' => e = .returned (.tuple #[]) ∧ Jo w x b u W' (l ++ if has = true then p ++ q else []) := by
  have hk : Keeps [] W (W.alloc (.cells #[.string ⟨p.toArray⟩, .string ⟨q.toArray⟩] 9)) := (Keeps.refl [] W).alloc _
  refine (put_anyU has W.heap.size 2 [⟨p.toArray⟩, ⟨q.toArray⟩] b b l (p ++ q) _ (join2 p q) ?_ (by simp) 2 rfl (by omega) (by omega) (h.bld.keeps hk) hl (by have := h.bW; have := hk.size; omega)).mono ?_
  · intro j y hj
    have hb := heap_alloc_new W (.cells #[.string ⟨p.toArray⟩, .string ⟨q.toArray⟩] 9)
    rw [Nat.zero_add]
    match j, hj with
    | 0, hj => simp at hj; subst hj; rw [Lib.cell_of_heap hb]; rfl
    | 1, hj => simp at hj; subst hj; rw [Lib.cell_of_heap hb]; rfl
  · rintro e W' ⟨rfl, h1, h2⟩
    have hB := h.bW
    have hs1 := hk.size
    have hs2 := h2.size
    exact ⟨rfl, h2.url (h.url.keeps hk (by simp)) h.xb (by have := h.xb; omega), h1, KeepsB.nil (h.keeps.trans hk) h2 h.bw (Nat.le_refl _), h.bw, h.xb, by omega⟩
theorem Jo.put1 {w : World} {x b : Nat} {u : UrlT} {W : World} {l : List UInt8} (h : Jo w x b u W l) (has : Bool) (p : List UInt8) (hl : l.length + p.length ≤ 1000000000) :
    Calls Tryz.prog 218 #[.bool has, .slice (some ⟨W.heap.size, 0, none⟩) 1 1, .pointer (some ⟨b, 0, none⟩)] (W.alloc (.cells #[.string ⟨p.toArray⟩] 9)) fun e W' => e = .returned (.tuple #[]) ∧ Jo w x b u W' (l ++ if has = true then p else []) := by
  have hk : Keeps [] W (W.alloc (.cells #[.string ⟨p.toArray⟩] 9)) := (Keeps.refl [] W).alloc _
  refine (put_anyU has W.heap.size 1 [⟨p.toArray⟩] b b l p _ (join1 p) ?_ (by simp) 1 rfl (by omega) (by omega) (h.bld.keeps hk) hl (by have := h.bW; have := hk.size; omega)).mono ?_
  · intro j y hj
    have hb := heap_alloc_new W (.cells #[.string ⟨p.toArray⟩] 9)
    rw [Nat.zero_add]
    match j, hj with
    | 0, hj => simp at hj; subst hj; rw [Lib.cell_of_heap hb]; rfl
  · rintro e W' ⟨rfl, h1, h2⟩
    have hB := h.bW
    have hs1 := hk.size
    have hs2 := h2.size
    exact ⟨rfl, h2.url (h.url.keeps hk (by simp)) h.xb (by have := h.xb; omega), h1, KeepsB.nil (h.keeps.trans hk) h2 h.bw (Nat.le_refl _), h.bw, h.xb, by omega⟩
theorem if_len (c : Bool) (l : List UInt8) : (if c = true then l else []).length ≤ l.length := by split <;> simp
set_option maxRecDepth 4000 in
set_option maxHeartbeats 4000000 in
theorem joined_any (u : UrlT) (w : World) (hl : u.scheme.length ≤ 20000 ∧ u.authority.length ≤ 20000 ∧ u.path.length ≤ 20000 ∧ u.query.length ≤ 20000 ∧ u.fragment.length ≤ 20000) :
    Calls Tryz.prog 146 #[urlV u] w fun e w' => e = .returned (.string ⟨(joinL u).toArray⟩) ∧ Keeps [] w w' := by
  have hmf : ∀ (fn : Fn) (first cap : Array Value) (w : World), (Instr.makeFunc fn first cap).run Tryz.prog w = .ok (.func fn first cap) w := fun _ _ _ _ => rfl
  have hE := enters218
  unfold Enters at hE
  unfold urlV urlCells
  obtain ⟨A, hA⟩ : ∃ A, joinL u = A := ⟨_, rfl⟩
  rw [hA]
  have HA : Hid (A = [] ++ (if u.hs = true then u.scheme ++ [58] else []) ++ (if u.ha = true then [47, 47] ++ u.authority else []) ++ u.path ++ (if u.hq = true then [63] ++ u.query else []) ++ (if u.hf = true then [35] ++ u.fragment else [])) := by
    rw [← hA]; unfold joinL; simp [Hid]
  clear hA
  have l1 := if_len u.hs (u.scheme ++ [58])
  have l2 := if_len u.ha ([47, 47] ++ u.authority)
  have l4 := if_len u.hq ([63] ++ u.query)
  simp only [List.length_append, List.length_cons, List.length_nil] at l1 l2 l4
  obtain ⟨a1, h1⟩ : ∃ a, (if u.hs = true then u.scheme ++ [58] else []) = a := ⟨_, rfl⟩
  obtain ⟨a2, h2⟩ : ∃ a, (if u.ha = true then [47, 47] ++ u.authority else []) = a := ⟨_, rfl⟩
  obtain ⟨a4, h4⟩ : ∃ a, (if u.hq = true then [63] ++ u.query else []) = a := ⟨_, rfl⟩
  obtain ⟨a5, h5⟩ : ∃ a, (if u.hf = true then [35] ++ u.fragment else []) = a := ⟨_, rfl⟩
  rw [h1, h2, h4, h5] at HA
  rw [h1] at l1
  rw [h2] at l2
  rw [h4] at l4
  have H1 := hide h1
  have H2 := hide h2
  have H4 := hide h4
  have H5 := hide h5
  clear h1 h2 h4 h5
  go_enter Tryz.func146, Tryz.ntmps146
  go_wp2_with fail
  obtain ⟨W0, hW0⟩ : ∃ W0, W0 = ((w.alloc (.cells #[.string ⟨u.scheme.toArray⟩, .string ⟨u.authority.toArray⟩, .string ⟨u.path.toArray⟩, .string ⟨u.query.toArray⟩, .string ⟨u.fragment.toArray⟩, .bool u.hs, .bool u.ha, .bool u.hq, .bool u.hf] 99)).alloc (.cells #[.pointer none, .slice none 0 0] 134)) := ⟨_, rfl⟩
  have hsz : w.heap.size + 1 + 1 = W0.heap.size := by rw [hW0]; simp
  rw [← hW0, hsz]
  have j0 : Jo w w.heap.size (w.heap.size + 1) u W0 [] := by
    subst hW0
    have hk0 : Keeps [] w (w.alloc (.cells #[.string ⟨u.scheme.toArray⟩, .string ⟨u.authority.toArray⟩, .string ⟨u.path.toArray⟩, .string ⟨u.query.toArray⟩, .string ⟨u.fragment.toArray⟩, .bool u.hs, .bool u.ha, .bool u.hq, .bool u.hf] 99)) := (Keeps.refl [] w).alloc _
    have hb := bld_newU (w.alloc (.cells #[.string ⟨u.scheme.toArray⟩, .string ⟨u.authority.toArray⟩, .string ⟨u.path.toArray⟩, .string ⟨u.query.toArray⟩, .string ⟨u.fragment.toArray⟩, .bool u.hs, .bool u.ha, .bool u.hq, .bool u.hf] 99))
    have e1 : (w.alloc (.cells #[.string ⟨u.scheme.toArray⟩, .string ⟨u.authority.toArray⟩, .string ⟨u.path.toArray⟩, .string ⟨u.query.toArray⟩, .string ⟨u.fragment.toArray⟩, .bool u.hs, .bool u.ha, .bool u.hq, .bool u.hf] 99)).heap.size = w.heap.size + 1 := by simp
    rw [e1] at hb
    refine ⟨?_, hb, hk0.alloc _, by omega, by omega, by simp⟩
    unfold IsUrl
    rw [Below.heap_alloc _ _ _ (by simp)]
    exact heap_alloc_new _ _
  clear hW0 hsz
  generalize w.heap.size + 1 = b at *
  generalize hx : w.heap.size = x at *
  clear hx
  refine (j0.put2 u.hs u.scheme [58] (by simp; omega)).mono ?_
  rintro e W1 ⟨rfl, j1⟩
  rw [H1.out] at j1
  have c6 : W1.cell? ⟨x, 6, none⟩ = some (.bool u.ha) := j1.url.cell 6
  have c1 : W1.cell? ⟨x, 1, none⟩ = some (.string ⟨u.authority.toArray⟩) := j1.url.cell 1
  go_wp2_with fail
  refine (j1.put2 u.ha [47, 47] u.authority (by simp; omega)).mono ?_
  rintro e W2 ⟨rfl, j2⟩
  rw [H2.out] at j2
  have c2 : W2.cell? ⟨x, 2, none⟩ = some (.string ⟨u.path.toArray⟩) := j2.url.cell 2
  go_wp2_with fail
  refine (j2.put1 true u.path (by simp; omega)).mono ?_
  rintro e W3 ⟨rfl, j3⟩
  rw [if_pos rfl] at j3
  have c7 : W3.cell? ⟨x, 7, none⟩ = some (.bool u.hq) := j3.url.cell 7
  have c3 : W3.cell? ⟨x, 3, none⟩ = some (.string ⟨u.query.toArray⟩) := j3.url.cell 3
  go_wp2_with fail
  refine (j3.put2 u.hq [63] u.query (by simp; omega)).mono ?_
  rintro e W4 ⟨rfl, j4⟩
  rw [H4.out] at j4
  have c8 : W4.cell? ⟨x, 8, none⟩ = some (.bool u.hf) := j4.url.cell 8
  have c4 : W4.cell? ⟨x, 4, none⟩ = some (.string ⟨u.fragment.toArray⟩) := j4.url.cell 4
  go_wp2_with fail
  refine (j4.put2 u.hf [35] u.fragment (by simp; omega)).mono ?_
  rintro e W5 ⟨rfl, j5⟩
  rw [H5.out, ← HA.out] at j5
  go_wp2_with fail
  refine (Tryz.Builder_String_any b b A W5 j5.bld j5.bW).mono ?_
  rintro e W6 ⟨rfl, hb6⟩
  have hk6 : Keeps [] w W6 := by
    have h6 : Below w.heap.size W5 W6 := ⟨hb6.os, hb6.tape, hb6.output, hb6.size, fun k hk => hb6.block k (by have := j5.bw; omega)⟩
    exact ⟨h6.os.trans j5.keeps.os, h6.tape.trans j5.keeps.tape, h6.output.trans j5.keeps.output, Nat.le_trans j5.keeps.size h6.size, fun k hk _ => (h6.block k hk).trans (j5.keeps.block k hk List.not_mem_nil)⟩
  go_wp2_with fail
  go_ret
  exact ⟨by simp, hk6⟩
theorem url_ext (a b : UrlT) : (a = b) ↔ (a.scheme = b.scheme ∧ a.authority = b.authority ∧ a.path = b.path ∧ a.query = b.query ∧ a.fragment = b.fragment ∧ a.hs = b.hs ∧ a.ha = b.ha ∧ a.hq = b.hq ∧ a.hf = b.hf) := by
  cases a
  cases b
  simp
set_option maxHeartbeats 2000000 in
theorem eqUrl (x y : UrlT) (w : World) : (binOp .neq 99 (urlV x) (urlV y)).run Tryz.prog w = .ok (.bool (decide (x ≠ y))) w := by
  have u9 := Tryz.underlying9
  have u4 := Tryz.underlying4
  have hS : Tryz.prog.underlying 99 = some (.struct (Tryz.prog.fieldsOf 99)) := by kernel_rfl
  have hp : Tryz.prog.stoodInHeld 99 = false := by kernel_rfl
  unfold urlV urlCells
  rw [run_neq_struct, show (10000 : Nat) = 9999 + 1 from rfl, run_equalIn_agg w 9999 99 _ _ hS hp]
  simp only [Program.fieldsOf, Tryz.underlying99]
  go_simp
  have e := url_ext x y
  by_cases h : x = y
  · subst h
    simp
  · have h' := mt e.2 h
    rw [decide_eq_false h]
    repeat' split
    all_goals first | rfl | (exfalso; exact h' ⟨by assumption, by assumption, by assumption, by assumption, by assumption, by assumption, by assumption, by assumption, by assumption⟩)
def ansO (a : Option (List UInt8)) : Ending := match a with
  | some x => .returned (.tuple #[.string ⟨x.toArray⟩, .int .i64 0])
  | none => .returned (.tuple #[.string ⟨#[]⟩, .int .i64 1])
theorem box_url (w : World) (u : UrlT) : IsUrl (w.alloc (.cells #[.string ⟨u.scheme.toArray⟩, .string ⟨u.authority.toArray⟩, .string ⟨u.path.toArray⟩, .string ⟨u.query.toArray⟩, .string ⟨u.fragment.toArray⟩, .bool u.hs, .bool u.ha, .bool u.hq, .bool u.hf] 99)) w.heap.size u := heap_alloc_new _ _
def Short (u : UrlT) : Prop := u.scheme.length ≤ 20000 ∧ u.authority.length ≤ 20000 ∧ u.path.length ≤ 20000 ∧ u.query.length ≤ 20000 ∧ u.fragment.length ≤ 20000
set_option maxRecDepth 4000 in
set_option maxHeartbeats 4000000 in
theorem join_any (u : UrlT) (w : World) (hl : Short u) (hM : HasMax w) :
    Calls Tryz.prog 72 #[urlV u] w fun e w' => e = ansO (joinsL u) ∧ Keeps [] w w' := by
  have hjn := hide (fun w => joined_any u w hl)
  have hJ : Hid (joinsL u = if (joinL u).length ≤ 3000 ∧ splitL (joinL u) = u then some (joinL u) else none) := rfl
  have hlen : (joinL u).length ≤ 200000 := by
    obtain ⟨h1, h2, h3, h4, h5⟩ := hl
    have l1 := if_len u.hs (u.scheme ++ [58])
    have l2 := if_len u.ha ([47, 47] ++ u.authority)
    have l4 := if_len u.hq (63 :: u.query)
    have l5 := if_len u.hf (35 :: u.fragment)
    unfold joinL
    simp only [List.length_append, List.length_cons, List.length_nil] at l1 l2 l4 l5 ⊢
    omega
  clear hl
  generalize joinL u = A at *
  have hlong := hide (fun (w : World) (h : 3000 < A.length) => split_long ⟨A.toArray⟩ w (by rw [str_size]; unfold maxLen; omega) h)
  have hshort := hide (fun (w : World) (h : ¬ 3000 < A.length) (hM : HasMax w) => split_short ⟨A.toArray⟩ w h hM)
  rw [str_list] at hshort
  have hbx := box_url w u
  have hka : Keeps [] w _ := (Keeps.refl [] w).alloc (.cells #[.string ⟨u.scheme.toArray⟩, .string ⟨u.authority.toArray⟩, .string ⟨u.path.toArray⟩, .string ⟨u.query.toArray⟩, .string ⟨u.fragment.toArray⟩, .bool u.hs, .bool u.ha, .bool u.hq, .bool u.hf] 99)
  by_cases hL : 3000 < A.length
  · rw [hJ.out, if_neg (by omega)]
    unfold ansO
    unfold urlV urlCells at hjn ⊢
    have hlo := hide (fun w => hlong.out w hL)
    clear hlong hshort hL hlen
    unfold urlV urlCells noUrl at hlo
    go_enter Tryz.func72, Tryz.ntmps72
    go_wp2_with fail
    refine (hjn.out _).mono ?_
    rintro e w1 ⟨rfl, hk1⟩
    go_wp2_with fail
    refine (hlo.out _).mono ?_
    rintro e w2 ⟨rfl, hk2⟩
    go_wp2_with fail
    go_ret2
    exact ⟨rfl, ((hka.trans hk1).trans hk2).alloc _⟩
  · have hsh := hide (fun w hM => hshort.out w hL hM)
    have hgd : Tryz.prog.eqGuardType Tryz.prog.depth 99 = false := by kernel_rfl
    have hJ2 : Hid (joinsL u = if splitL A = u then some A else none) := by
      rw [hJ.out]
      by_cases h : splitL A = u
      · rw [if_pos ⟨by omega, h⟩, if_pos h]; exact rfl
      · rw [if_neg (fun hh => h hh.2), if_neg h]; exact rfl
    clear hlong hshort hL hlen hJ
    generalize splitL A = C at *
    by_cases hE : C = u
    · rw [hJ2.out, if_pos hE]
      unfold ansO
      have heq : ∀ w, (binOp .neq 99 (urlV C) (urlV u)).run Tryz.prog w = .ok (.bool false) w := fun w => (eqUrl C u w).trans (by rw [decide_eq_false (by simpa using hE)])
      unfold urlV urlCells at heq hjn hsh ⊢
      go_enter Tryz.func72, Tryz.ntmps72
      go_wp2_with fail
      refine (hjn.out _).mono ?_
      rintro e w1 ⟨rfl, hk1⟩
      go_wp2_with fail
      refine (hsh.out _ (hM.keeps (hka.trans hk1) (by simp))).mono ?_
      rintro e w2 ⟨rfl, hk2⟩
      have hu2 := fun o => (hbx.keeps (hk1.trans hk2) (by simp)).keeps ((Keeps.refl [] w2).alloc o) (by simp)
      have u0 : ∀ o, (w2.alloc o).cell? ⟨w.heap.size, 0, none⟩ = some (.string ⟨u.scheme.toArray⟩) := fun o => (hu2 o).cell 0
      have u1 : ∀ o, (w2.alloc o).cell? ⟨w.heap.size, 1, none⟩ = some (.string ⟨u.authority.toArray⟩) := fun o => (hu2 o).cell 1
      have u2 : ∀ o, (w2.alloc o).cell? ⟨w.heap.size, 2, none⟩ = some (.string ⟨u.path.toArray⟩) := fun o => (hu2 o).cell 2
      have u3 : ∀ o, (w2.alloc o).cell? ⟨w.heap.size, 3, none⟩ = some (.string ⟨u.query.toArray⟩) := fun o => (hu2 o).cell 3
      have u4 : ∀ o, (w2.alloc o).cell? ⟨w.heap.size, 4, none⟩ = some (.string ⟨u.fragment.toArray⟩) := fun o => (hu2 o).cell 4
      have u5 : ∀ o, (w2.alloc o).cell? ⟨w.heap.size, 5, none⟩ = some (.bool u.hs) := fun o => (hu2 o).cell 5
      have u6 : ∀ o, (w2.alloc o).cell? ⟨w.heap.size, 6, none⟩ = some (.bool u.ha) := fun o => (hu2 o).cell 6
      have u7 : ∀ o, (w2.alloc o).cell? ⟨w.heap.size, 7, none⟩ = some (.bool u.hq) := fun o => (hu2 o).cell 7
      have u8 : ∀ o, (w2.alloc o).cell? ⟨w.heap.size, 8, none⟩ = some (.bool u.hf) := fun o => (hu2 o).cell 8
      clear hu2
      go_wp2_with fail
      go_ret2
      exact ⟨rfl, ((hka.trans hk1).trans hk2).alloc _⟩
    · rw [hJ2.out, if_neg hE]
      unfold ansO
      have heq : ∀ w, (binOp .neq 99 (urlV C) (urlV u)).run Tryz.prog w = .ok (.bool true) w := fun w => (eqUrl C u w).trans (by rw [decide_eq_true (hE)])
      unfold urlV urlCells at heq hjn hsh ⊢
      go_enter Tryz.func72, Tryz.ntmps72
      go_wp2_with fail
      refine (hjn.out _).mono ?_
      rintro e w1 ⟨rfl, hk1⟩
      go_wp2_with fail
      refine (hsh.out _ (hM.keeps (hka.trans hk1) (by simp))).mono ?_
      rintro e w2 ⟨rfl, hk2⟩
      have hu2 := fun o => (hbx.keeps (hk1.trans hk2) (by simp)).keeps ((Keeps.refl [] w2).alloc o) (by simp)
      have u0 : ∀ o, (w2.alloc o).cell? ⟨w.heap.size, 0, none⟩ = some (.string ⟨u.scheme.toArray⟩) := fun o => (hu2 o).cell 0
      have u1 : ∀ o, (w2.alloc o).cell? ⟨w.heap.size, 1, none⟩ = some (.string ⟨u.authority.toArray⟩) := fun o => (hu2 o).cell 1
      have u2 : ∀ o, (w2.alloc o).cell? ⟨w.heap.size, 2, none⟩ = some (.string ⟨u.path.toArray⟩) := fun o => (hu2 o).cell 2
      have u3 : ∀ o, (w2.alloc o).cell? ⟨w.heap.size, 3, none⟩ = some (.string ⟨u.query.toArray⟩) := fun o => (hu2 o).cell 3
      have u4 : ∀ o, (w2.alloc o).cell? ⟨w.heap.size, 4, none⟩ = some (.string ⟨u.fragment.toArray⟩) := fun o => (hu2 o).cell 4
      have u5 : ∀ o, (w2.alloc o).cell? ⟨w.heap.size, 5, none⟩ = some (.bool u.hs) := fun o => (hu2 o).cell 5
      have u6 : ∀ o, (w2.alloc o).cell? ⟨w.heap.size, 6, none⟩ = some (.bool u.ha) := fun o => (hu2 o).cell 6
      have u7 : ∀ o, (w2.alloc o).cell? ⟨w.heap.size, 7, none⟩ = some (.bool u.hq) := fun o => (hu2 o).cell 7
      have u8 : ∀ o, (w2.alloc o).cell? ⟨w.heap.size, 8, none⟩ = some (.bool u.hf) := fun o => (hu2 o).cell 8
      clear hu2
      go_wp2_with fail
      go_ret2
      exact ⟨rfl, ((hka.trans hk1).trans hk2).alloc _⟩
end Go.Proofs.YtlcljanibjdejaaGreat

/- Safe: bare. What must stand in clean trees: attrMustStand, mustStand. textIn, SameNodes. SameNodes of nodes that are the same. -/
import Derived.Test.YtlcljanibjdejaaGreatPk17
import Derived.Test.YtlcljanibjdejaaGreatPk11
import Derived.Test.YtlcljanibjdejaaGreatPk12
namespace Go.Proofs.YtlcljanibjdejaaGreat
open Go.RowKit

theorem enters226 : Enters 226 := enters_of Tryz.func226 (by kernel_rfl) (by kernel_rfl)
theorem enters227 : Enters 227 := enters_of Tryz.func227 (by kernel_rfl) (by kernel_rfl)

def gtB (c : UInt8) : Bool := decide (32 < c.toNat)
def leB (c : UInt8) : Bool := decide (c.toNat ≤ 32)

set_option maxHeartbeats 400000 in
theorem gt_any (c : UInt8) (w : World) : Calls Tryz.prog 226 #[.int .u8 c.toNat] w fun e w' => e = .returned (.bool (gtB c)) ∧ w' = w := by
  unfold gtB
  go_enter Tryz.func226, Tryz.ntmps226
  go_wp2
  go_ret
  refine ⟨ret_bool ?_, rfl⟩
  rw [Bool.eq_iff_iff]; simp; omega

set_option maxHeartbeats 400000 in
theorem le_any (c : UInt8) (w : World) : Calls Tryz.prog 227 #[.int .u8 c.toNat] w fun e w' => e = .returned (.bool (leB c)) ∧ w' = w := by
  unfold leB
  go_enter Tryz.func227, Tryz.ntmps227
  go_wp2
  go_ret
  refine ⟨ret_bool ?_, rfl⟩
  rw [Bool.eq_iff_iff]; simp; omega

theorem bare_app (x y : List UInt8) : bareL (x ++ y) = bareL x ++ bareL y := by simp [bareL]
theorem bare_tw (f : UInt8 → Bool) (l : List UInt8) : ∀ d ∈ l.takeWhile f, f d = true := fun d hd => List.all_eq_true.1 (List.all_takeWhile (p := f) (l := l)) d hd

/-- One round of bare. -/
theorem bare_step (l : List UInt8) (k : Nat) : bareL (l.take (k + ((l.drop k).takeWhile gtB).length + ((l.drop (k + ((l.drop k).takeWhile gtB).length)).takeWhile leB).length)) = bareL (l.take k) ++ (l.drop k).takeWhile gtB := by
  have tk : ∀ (f : UInt8 → Bool) (k : Nat), l.take (k + ((l.drop k).takeWhile f).length) = l.take k ++ (l.drop k).takeWhile f := fun f k => by
    rw [List.take_add]
    congr 1
    exact (List.prefix_iff_eq_take.1 (List.takeWhile_prefix _)).symm
  rw [tk leB, tk gtB, bare_app, bare_app]
  have e1 : bareL ((l.drop k).takeWhile gtB) = (l.drop k).takeWhile gtB := by
    unfold bareL
    exact List.filter_eq_self.2 (bare_tw gtB (l.drop k))
  have e2 : bareL ((l.drop (k + ((l.drop k).takeWhile gtB).length)).takeWhile leB) = [] := by
    unfold bareL
    refine List.filter_eq_nil_iff.2 fun d hd => ?_
    have := bare_tw leB _ d hd
    simp [leB] at this ⊢
    exact this
  rw [e1, e2, List.append_nil]

theorem bare_more (l : List UInt8) (k : Nat) (h : k < l.length) : k < k + ((l.drop k).takeWhile gtB).length + ((l.drop (k + ((l.drop k).takeWhile gtB).length)).takeWhile leB).length := by
  cases hg : gtB l[k]
  · have e1 : (l.drop k).takeWhile gtB = [] := by rw [List.drop_eq_getElem_cons h, List.takeWhile_cons, hg]; rfl
    have hl : leB l[k] = true := by simp [gtB] at hg; simpa [leB] using hg
    have e2 : 0 < ((l.drop k).takeWhile leB).length := by rw [List.drop_eq_getElem_cons h, List.takeWhile_cons, hl]; exact Nat.succ_pos _
    rw [e1, List.length_nil, Nat.add_zero]
    omega
  · have e1 : 0 < ((l.drop k).takeWhile gtB).length := by rw [List.drop_eq_getElem_cons h, List.takeWhile_cons, hg]; exact Nat.succ_pos _
    omega

theorem bare_len (l : List UInt8) : (bareL l).length ≤ l.length := List.length_filter_le _ _

theorem IsBld.keepsT {B d b : Nat} {l : List UInt8} {w w' : World} (h : IsBld B d l w) (hk : Keeps [b] w w') (hb : b < B) : IsBld B d l w' := by
  rcases h with ⟨hB, v, hb', ho, hne⟩ | ⟨hB, v, hb', ho, hne⟩
  · exact .inl ⟨hB, v, by rw [hk.block d (lt_of_block hb') (by simp; omega)]; exact hb', hk.owns ho (fun g hg => by have := (ho.lt g hg).1; simp; omega), hne⟩
  · exact .inr ⟨hB, v, by rw [hk.block d (lt_of_block hb') (by simp; omega)]; exact hb', hk.owns ho (fun g hg => by have := (ho.lt g hg).1; simp; omega), hne⟩
theorem KeepsB.text {B d : Nat} {w w' : World} {b : Nat} {s : ByteArray} {k : Nat} (h : KeepsB B d w w') (hT : IsText w b s k) (hb : b < B) (hd : b ≠ d) : IsText w' b s k := by
  rw [IsText, h.block b hT.lt hd (.inl hb)]; exact hT

set_option maxRecDepth 4000 in
set_option maxHeartbeats 4000000 in
theorem bare_any (s : ByteArray) (w : World) (hs : s.size ≤ 3000) :
    Calls Tryz.prog 150 #[.string s] w fun e w' => e = .returned (.string ⟨(bareL s.data.toList).toArray⟩) ∧ Keeps [] w w' := by
  have p1 := hide (fun k (w : World) hT hk => pass_of 226 gtB enters226 gt_any w.heap.size s k w hs hT hk)
  have P1 := hide (fun b k (w : World) hT hk => pass_of 226 gtB enters226 gt_any b s k w hs hT hk)
  have P2 := hide (fun b k (w : World) hT hk => pass_of 227 leB enters227 le_any b s k w hs hT hk)
  clear p1
  have hln := len_size s
  go_enter Tryz.func150, Tryz.ntmps150
  go_wp2_with fail
  refine (new_any s _).mono ?_
  rintro e w1 ⟨rfl, rfl⟩
  go_wp2_with fail
  have hT0 : IsText ((w.alloc (.cells #[.string s, .int .i64 0] 181)).alloc (.cells #[.pointer none, .slice none 0 0] 134)) w.heap.size s 0 := by
    unfold IsText
    rw [Below.heap_alloc _ _ _ (by simp)]
    exact heap_alloc_new _ _
  have hB0 : IsBld (w.heap.size + 1) (w.heap.size + 1) [] ((w.alloc (.cells #[.string s, .int .i64 0] 181)).alloc (.cells #[.pointer none, .slice none 0 0] 134)) := by
    have := bld_newU (w.alloc (.cells #[.string s, .int .i64 0] 181))
    rw [show (w.alloc (.cells #[.string s, .int .i64 0] 181)).heap.size = w.heap.size + 1 from by simp] at this
    exact this
  have hK0 : Keeps [] w ((w.alloc (.cells #[.string s, .int .i64 0] 181)).alloc (.cells #[.pointer none, .slice none 0 0] 134)) := ((Keeps.refl [] w).alloc _).alloc _
  have hZ0 : w.heap.size + 1 ≤ ((w.alloc (.cells #[.string s, .int .i64 0] 181)).alloc (.cells #[.pointer none, .slice none 0 0] 134)).heap.size := by simp
  go_loopw [9] (fun _ wr => ∃ k : Nat, k ≤ s.size ∧ IsText wr w.heap.size s k ∧ IsBld (w.heap.size + 1) (w.heap.size + 1) (bareL (s.data.toList.take k)) wr ∧ Keeps [] w wr ∧ w.heap.size + 1 ≤ wr.heap.size) (fun _ wr => s.size - (intOf ((wr.cell? ⟨w.heap.size, 1, none⟩).getD undef)).toNat)
  case atStart => exact ⟨0, Nat.zero_le _, hT0, by simpa [bareL] using hB0, hK0, hZ0⟩
  case round =>
    obtain ⟨k, hk, hT, hB, hK, hZ⟩ := hrel
    clear hT0 hB0 hK0 hZ0
    have c1 := hT.cell1
    by_cases hlt : k < s.size
    · have hd : decide (s.size ≤ k) = false := by simp; omega
      have HS := hide (bare_step s.data.toList k)
      have HM := hide (bare_more s.data.toList k (by rw [hln]; exact hlt))
      have l1 := takeWhile_le gtB s k hk
      have hbl : (bareL (s.data.toList.take k)).length ≤ 3000 := by
        have h1 := bare_len (s.data.toList.take k)
        have h2 : (s.data.toList.take k).length ≤ s.data.toList.length := (List.take_sublist _ _).length_le
        omega
      go_wp2_with fail
      refine (done_any _ s k _ hT).mono ?_
      rintro e w2 ⟨rfl, n2, rfl⟩
      rw [hd]
      have hT2 : IsText (wr.drewN n2) w.heap.size s k := hT
      go_wp2_with fail
      refine (P1.out _ k _ hT2 hk).mono ?_
      rintro e w3 ⟨rfl, hT3, hk3⟩
      have hB3 := hB.keepsT (keeps_of_drewN hk3) (by omega)
      have hK3 : Keeps [] w w3 := (hK.mono (T := [w.heap.size]) (by simp)).trans (keeps_of_drewN hk3) |>.mono (fun i hi hlt => by simp at hi; omega)
      have hz3 := hk3.size
      have l2 := takeWhile_le leB s (k + ((s.data.toList.drop k).takeWhile gtB).length) l1
      generalize hG : (s.data.toList.drop k).takeWhile gtB = G at *
      clear hG
      go_wp2_with fail
      refine (write_all (w.heap.size + 1) (w.heap.size + 1) _ G _ hB3 (by omega) (by simp at hz3; omega)).mono ?_
      rintro e w4 ⟨rfl, hB4, hk4⟩
      have hT4 := hk4.text hT3 (by omega) (by omega)
      have hK4 : Keeps [] w w4 := KeepsB.nil hK3 hk4 (by omega) (Nat.le_refl _)
      have hz4 := hk4.size
      go_wp2_with fail
      refine (P2.out _ _ _ hT4 l1).mono ?_
      rintro e w5 ⟨rfl, hT5, hk5⟩
      have hB5 := hB4.keepsT hk5 (by omega)
      rw [← HS.out] at hB5
      have hK5 : Keeps [] w w5 := (hK4.mono (T := [w.heap.size]) (by simp)).trans hk5 |>.mono (fun i hi hlt => by simp at hi; omega)
      have hz5 := hk5.size
      go_wp2_with fail
      go_roundw
      case rel => exact ⟨_, l2, hT5, hB5, hK5, by simp at hz3; omega⟩
      case measure =>
        have h5 := hT5.cell1
        rw [h5, c1]
        simp only [intOf, Option.getD_some]
        have := HM.out
        omega
    · have hd : decide (s.size ≤ k) = true := by simp; omega
      have he : s.data.toList.take k = s.data.toList := List.take_of_length_le (by rw [hln]; omega)
      rw [he] at hB
      obtain ⟨A, hA⟩ : ∃ A, bareL s.data.toList = A := ⟨_, rfl⟩
      rw [hA] at hB
      have HA := hide hA
      clear hA he
      go_wp2_with fail
      refine (done_any _ s k _ hT).mono ?_
      rintro e w2 ⟨rfl, n2, rfl⟩
      rw [hd]
      have hB2 : IsBld (w.heap.size + 1) (w.heap.size + 1) A (wr.drewN n2) := hB
      go_wp2_with fail
      refine (Tryz.Builder_String_any _ _ A _ hB2 (by simpa using hZ)).mono ?_
      rintro e w3 ⟨rfl, hb3⟩
      have hK3 : Keeps [] w w3 := by
        have h6 : Below w.heap.size wr w3 := ⟨hb3.os, hb3.tape, hb3.output, hb3.size, fun k hk => hb3.block k (by omega)⟩
        exact ⟨h6.os.trans hK.os, h6.tape.trans hK.tape, h6.output.trans hK.output, Nat.le_trans hK.size h6.size, fun k hk _ => (h6.block k hk).trans (hK.block k hk List.not_mem_nil)⟩
      go_wp2_with fail
      go_ret
      exact ⟨by rw [HA.out]; simp, hK3⟩

set_option maxHeartbeats 400000 in
theorem safe_long (s : ByteArray) (w : World) (hm : s.size ≤ maxLen) (h : 3000 < s.size) :
    Calls Tryz.prog 75 #[.string s] w fun e w' => e = .returned (.tuple #[.bool false, .int .i64 2]) ∧ w' = w := by
  unfold maxLen at hm
  have hd : decide ((3000 : Int) < (s.size : Int)) = true := by simp; omega
  go_enter Tryz.func75, Tryz.ntmps75
  go_wp2_with fail
  go_ret2
  exact ⟨rfl, rfl⟩

theorem field0 (u : UrlT) (w : World) : (Instr.field 99 (.agg #[.string ⟨u.scheme.toArray⟩, .string ⟨u.authority.toArray⟩, .string ⟨u.path.toArray⟩, .string ⟨u.query.toArray⟩, .string ⟨u.fragment.toArray⟩, .bool u.hs, .bool u.ha, .bool u.hq, .bool u.hf]) 0).run Tryz.prog w = .ok (.string ⟨u.scheme.toArray⟩) w := by
  kernel_rfl

set_option maxRecDepth 4000 in
set_option maxHeartbeats 2000000 in
theorem safe_any (s : ByteArray) (w : World) (hs : s.size ≤ 3000) (hM : HasMax w) :
    Calls Tryz.prog 75 #[.string s] w fun e w' => e = .returned (.tuple #[.bool (safeL s.data.toList), .int .i64 0]) ∧ Keeps [] w w' := by
  have hd : decide ((3000 : Int) < (s.size : Int)) = false := by simp; omega
  have hb := hide (bare_any s w hs)
  have hbl := bare_len s.data.toList
  rw [len_size] at hbl
  have hsp := hide (fun w hM => split_any ⟨(bareL s.data.toList).toArray⟩ w (by rw [str_size]; omega) hM)
  rw [str_list] at hsp
  have hsl := split_len (bareL s.data.toList)
  have hlo := hide (fun w => lower_any ⟨(splitL (bareL s.data.toList)).scheme.toArray⟩ w (by rw [str_size]; omega))
  rw [str_list] at hlo
  have HS : Hid (safeL s.data.toList = okS (lowerL (splitL (bareL s.data.toList)).scheme)) := rfl
  obtain ⟨A, hA⟩ : ∃ A, safeL s.data.toList = A := ⟨_, rfl⟩
  rw [hA] at HS ⊢
  clear hA hbl hsl
  generalize bareL s.data.toList = B at *
  generalize splitL B = u at *
  generalize lowerL u.scheme = L at *
  unfold urlV urlCells at hsp
  have hfd := field0 u
  have q1 : ∀ l : List UInt8, ((⟨L.toArray⟩ : ByteArray).toList == l) = (L == l) := fun l => by rw [ByteArray.toList_eq]
  have HQ : Hid (A = (L == [104, 116, 116, 112] || L == [104, 116, 116, 112, 115] || L == [109, 97, 105, 108, 116, 111])) := HS.out
  cases h1 : (L == [104, 116, 116, 112]) <;> cases h2 : (L == [104, 116, 116, 112, 115]) <;> cases h3 : (L == [109, 97, 105, 108, 116, 111])
  all_goals
    rw [h1, h2, h3] at HQ
    have p1 := (q1 [104, 116, 116, 112]).trans h1
    have p2 := (q1 [104, 116, 116, 112, 115]).trans h2
    have p3 := (q1 [109, 97, 105, 108, 116, 111]).trans h3
    clear q1 HS
    go_enter Tryz.func75, Tryz.ntmps75
    go_wp2_with fail
    refine hb.out.mono ?_
    rintro e w1 ⟨rfl, hk1⟩
    go_wp2_with fail
    refine (hsp.out _ (hM.keeps hk1 (by simp))).mono ?_
    rintro e w2 ⟨rfl, hk2⟩
    go_wp2_with fail
    refine (hlo.out _).mono ?_
    rintro e w3 ⟨rfl, hk3⟩
    go_wp2_with fail
    go_ret2
    exact ⟨by rw [HQ.out]; rfl, (hk1.trans hk2).trans hk3⟩
end Go.Proofs.YtlcljanibjdejaaGreat

namespace Go.Proofs.YtlcljanibjdejaaGreat
open Go.RowKit Go.Maps

set_option maxHeartbeats 4000000 in
theorem attrMust_any (el : List UInt8) (a : Pair) (w : World) (hM : HasMax w) (hv : a.2.length ≤ maxLen) :
    Calls Tryz.prog 173 #[.string ⟨el.toArray⟩, .agg #[.string ⟨a.1.toArray⟩, .string ⟨a.2.toArray⟩]] w fun e w' =>
      (attrE el a = 0 ∧ e = .returned (.tuple #[]) ∨ attrE el a ≠ 0 ∧ e = .panicked (stopped (attrE el a))) ∧ Keeps [] w w' := by
  obtain ⟨n, v⟩ := a
  simp only at hv
  have hkA : Keeps [] w (w.alloc (.cells #[.string ⟨n.toArray⟩, .string ⟨v.toArray⟩] 52)) := (Keeps.refl [] w).alloc _
  have hA := heap_alloc_new w (.cells #[.string ⟨n.toArray⟩, .string ⟨v.toArray⟩] 52)
  have c0 : (w.alloc (.cells #[.string ⟨n.toArray⟩, .string ⟨v.toArray⟩] 52)).cell? ⟨w.heap.size, 0, none⟩ = some (.string ⟨n.toArray⟩) := cell_blk hA 0
  have c1 : (w.alloc (.cells #[.string ⟨n.toArray⟩, .string ⟨v.toArray⟩] 52)).cell? ⟨w.heap.size, 1, none⟩ = some (.string ⟨v.toArray⟩) := cell_blk hA 1
  have hM1 := hM.keeps hkA List.not_mem_nil
  have ha := hide (fun w => isAllowedAttr_any el n w)
  have hl := hide (fun w => isLink_any n w)
  unfold attrE
  simp only
  cases h1 : allowedA el n
  · rw [if_pos rfl]
    rw [h1] at ha
    go_enter Tryz.func173, Tryz.ntmps173
    go_wp2_with fail
    refine (ha.out _).mono ?_
    rintro e w1 ⟨rfl, h9⟩
    subst h9
    go_wp2_with fail
    refine (with_any 7 _).mono ?_
    rintro e w1 ⟨rfl, h9⟩
    subst h9
    exact ⟨rfl, .inr ⟨by decide, rfl⟩, hkA⟩
  · rw [if_neg (by simp)]
    rw [h1] at ha
    cases h2 : linkN n
    · rw [if_pos rfl]
      rw [h2] at hl
      go_enter Tryz.func173, Tryz.ntmps173
      go_wp2_with fail
      refine (ha.out _).mono ?_
      rintro e w1 ⟨rfl, h9⟩
      subst h9
      go_wp2_with fail
      refine (hl.out _).mono ?_
      rintro e w1 ⟨rfl, h9⟩
      subst h9
      go_wp2_with fail
      go_end0
      exact ⟨.inl ⟨trivial, rfl⟩, hkA⟩
    · rw [if_neg (by simp)]
      rw [h2] at hl
      by_cases h3 : 3000 < v.length
      · rw [if_pos h3]
        have hs := hide (fun w => safe_long ⟨v.toArray⟩ w hv h3)
        have hm := hide (fun w => mustBool_no false 2 (by decide) w)
        go_enter Tryz.func173, Tryz.ntmps173
        go_wp2_with fail
        refine (ha.out _).mono ?_
        rintro e w1 ⟨rfl, h9⟩
        subst h9
        go_wp2_with fail
        refine (hl.out _).mono ?_
        rintro e w1 ⟨rfl, h9⟩
        subst h9
        go_wp2_with fail
        refine (hs.out _).mono ?_
        rintro e w1 ⟨rfl, h9⟩
        subst h9
        go_wp2_with fail
        refine (hm.out _).mono ?_
        rintro e w1 ⟨rfl, h9⟩
        subst h9
        exact ⟨rfl, .inr ⟨by decide, rfl⟩, hkA⟩
      · rw [if_neg h3]
        have hs := hide (fun w hM => safe_any ⟨v.toArray⟩ w (by rw [str_size]; omega) hM)
        rw [str_list] at hs
        cases h4 : safeL v
        · rw [if_pos rfl]
          rw [h4] at hs
          have hm := hide (fun w => mustBool_ok false w)
          go_enter Tryz.func173, Tryz.ntmps173
          go_wp2_with fail
          refine (ha.out _).mono ?_
          rintro e w1 ⟨rfl, h9⟩
          subst h9
          go_wp2_with fail
          refine (hl.out _).mono ?_
          rintro e w1 ⟨rfl, h9⟩
          subst h9
          go_wp2_with fail
          refine (hs.out _ hM1).mono ?_
          rintro e w1 ⟨rfl, hk1⟩
          go_wp2_with fail
          refine (hm.out _).mono ?_
          rintro e w2 ⟨rfl, h9⟩
          subst h9
          go_wp2_with fail
          refine (with_any 4 _).mono ?_
          rintro e w2 ⟨rfl, h9⟩
          subst h9
          exact ⟨rfl, .inr ⟨by decide, rfl⟩, hkA.trans hk1⟩
        · rw [if_neg (by simp)]
          rw [h4] at hs
          have hm := hide (fun w => mustBool_ok true w)
          go_enter Tryz.func173, Tryz.ntmps173
          go_wp2_with fail
          refine (ha.out _).mono ?_
          rintro e w1 ⟨rfl, h9⟩
          subst h9
          go_wp2_with fail
          refine (hl.out _).mono ?_
          rintro e w1 ⟨rfl, h9⟩
          subst h9
          go_wp2_with fail
          refine (hs.out _ hM1).mono ?_
          rintro e w1 ⟨rfl, hk1⟩
          go_wp2_with fail
          refine (hm.out _).mono ?_
          rintro e w2 ⟨rfl, h9⟩
          subst h9
          go_wp2_with fail
          go_end0
          exact ⟨.inl ⟨trivial, rfl⟩, hkA.trans hk1⟩

theorem attrsE_drop (el : List UInt8) (l : List Pair) (k : Nat) (hk : k < l.length) : attrsE el (l.drop k) = if attrE el l[k] = 0 then attrsE el (l.drop (k + 1)) else attrE el l[k] := by
  rw [List.drop_eq_getElem_cons hk]
  rfl

set_option maxRecDepth 4000 in
set_option maxHeartbeats 8000000 in
theorem mustStand_any (n : List UInt8) (t : List UInt8) (l : List Pair) (ao : Option Addr) (an ac : Nat) (kv : Value) (w : World) (hM : HasMax w) (hv : Lies w (.slice ao an ac) l.length 2 (pairCells l)) (hlen : ∀ p ∈ l, p.2.length ≤ maxLen) (hkv : ∃ o m c, kv = .slice o m c) :
    Calls Tryz.prog 89 #[.agg #[.string ⟨n.toArray⟩, .slice ao an ac, .string ⟨t.toArray⟩, kv]] w fun e w' =>
      (standE n l = 0 ∧ e = .returned (.tuple #[]) ∨ standE n l ≠ 0 ∧ e = .panicked (stopped (standE n l))) ∧ Keeps [] w w' := by
  obtain ⟨ko, km, kc, rfl⟩ := hkv
  obtain ⟨o, c, hvv, h1, h2⟩ := hv.form
  simp only [Value.slice.injEq] at hvv
  obtain ⟨rfl, rfl, rfl⟩ := hvv
  obtain ⟨W, hW⟩ : ∃ W, w.alloc (.cells #[.string ⟨n.toArray⟩, .slice ao l.length ac, .string ⟨t.toArray⟩, .slice ko km kc] 45) = W := ⟨_, rfl⟩
  have hkA : Keeps [] w W := by rw [← hW]; exact (Keeps.refl [] w).alloc _
  have hA : W.heap[w.heap.size]? = some (.cells #[.string ⟨n.toArray⟩, .slice ao l.length ac, .string ⟨t.toArray⟩, .slice ko km kc] 45 (0, 0)) := by rw [← hW]; exact heap_alloc_new w _
  have cell0 : ∀ W', Keeps [] W W' → W'.cell? ⟨w.heap.size, 0, none⟩ = some (.string ⟨n.toArray⟩) := fun W' hk => cell_keeps hk (cell_blk hA 0)
  have cell1 : ∀ W', Keeps [] W W' → W'.cell? ⟨w.heap.size, 1, none⟩ = some (.slice ao l.length ac) := fun W' hk => cell_keeps hk (cell_blk hA 1)
  have C0 := hide cell0
  have C1 := hide cell1
  have hM1 := hide (hM.keeps hkA List.not_mem_nil)
  have hal := hide (fun w => isAllowed_any n w)
  have hcs := hide (fun w' (hk : Keeps [] w w') => containsSrc_any w' _ l (hv.keeps hk))
  have hE := enters175
  unfold Enters at hE
  have d0 := cell0 W (Keeps.refl _ _)
  have d1 := cell1 W (Keeps.refl _ _)
  unfold maxLen at h2
  obtain ⟨R, hR⟩ : ∃ R, standE n l = R := ⟨_, rfl⟩
  rw [hR]
  unfold standE at hR
  clear cell0 cell1 hA
  cases he : n.isEmpty
  · rw [he, if_neg (by simp)] at hR
    have p0 := (emptyB n)
    cases ha : allowedN n
    · rw [ha, if_pos rfl] at hR
      rw [ha] at hal
      subst hR
      clear p0
      go_enter Tryz.func89, Tryz.ntmps89
      go_wp2_with fail
      refine (hal.out _).mono ?_
      rintro e w1 ⟨rfl, h9⟩
      obtain rfl : W = w1 := h9.symm
      go_wp2_with fail
      refine (with_any 7 _).mono ?_
      rintro e w1 ⟨rfl, h9⟩
      subst h9
      exact ⟨rfl, .inr ⟨by decide, rfl⟩, hkA⟩
    · rw [ha, if_neg (by simp)] at hR
      rw [ha] at hal
      obtain ⟨A, hA⟩ : ∃ A, attrsE n l = A := ⟨_, rfl⟩
      rw [hA] at hR
      have HR := hide hR
      have HA := hide hA
      clear p0 hR hA
      go_enter Tryz.func89, Tryz.ntmps89
      go_wp2_with fail
      refine (hal.out _).mono ?_
      rintro e w1 ⟨rfl, h9⟩
      obtain rfl : W = w1 := h9.symm
      go_wp2_with fail
      go_loopw [16] (fun i wr => ∃ k : Nat, k ≤ l.length ∧ i = .int .i64 k ∧ Keeps [] W wr ∧ Hid (attrsE n (l.drop k) = A)) (fun i _ => l.length - (intOf i).toNat)
      case atStart => exact ⟨0, Nat.zero_le _, rfl, Keeps.refl _ _, HA⟩
      case round =>
        obtain ⟨k, hk, rfl, hkw, hC⟩ := hrel
        clear HA d0 d1
        have d0 := C0.out wr hkw
        have d1 := C1.out wr hkw
        by_cases hlt : k < l.length
        · obtain ⟨g, x, rfl, hc⟩ := (hv.keeps (hkA.trans hkw)).addr (by omega)
          have a0 := hc _ _ (pair_at0 l k hlt)
          have a1 := hc _ _ (pair_at1 l k hlt)
          rw [← Nat.add_assoc] at a1
          have hC1 := hC.out
          rw [attrsE_drop n l k hlt] at hC1
          have HC1 := hide hC1
          have hvl := hlen _ (List.getElem_mem hlt)
          have hM2 := hM1.out.keeps hkw List.not_mem_nil
          clear hC hC1 hc
          generalize l[k] = p at *
          obtain ⟨pn, pv⟩ := p
          simp only at a0 a1 hvl
          have hkB : Keeps [] wr (wr.alloc (.cells #[.string ⟨pn.toArray⟩, .string ⟨pv.toArray⟩] 52)) := (Keeps.refl [] wr).alloc _
          have hcl := hide (attrMust_any n (pn, pv) _ (hM2.keeps hkB List.not_mem_nil) hvl)
          have d0a : ∀ o, (wr.alloc o).cell? ⟨w.heap.size, 0, none⟩ = some (.string ⟨n.toArray⟩) := fun o => C0.out _ (hkw.alloc o)
          generalize attrE n (pn, pv) = E at *
          go_wp2_with fail
          refine hcl.out.mono ?_
          rintro e w1 ⟨⟨hE0, rfl⟩ | ⟨hE0, rfl⟩, hk1⟩
          · clear a0 a1 d0 d1
            go_wp2_with fail
            go_roundw
            case rel => exact ⟨k + 1, by omega, by go_num, (hkw.trans hkB).trans hk1, by have h9 := HC1.out; rw [if_pos hE0] at h9; exact h9⟩
            case measure => simp [intOf]; omega
          · have h9 := HC1.out
            rw [if_neg hE0] at h9
            have hRE : R = E := by have h8 := HR.out; rw [← h9, if_neg hE0] at h8; exact h8.symm
            subst hRE
            exact ⟨rfl, .inr ⟨hE0, rfl⟩, hkA.trans ((hkw.trans hkB).trans hk1)⟩
        · have hA0 : A = 0 := by
            rw [← hC.out, List.drop_eq_nil_of_le (by omega)]
            rfl
          have hR2 := HR.out
          rw [hA0, if_pos rfl] at hR2
          have hcs2 := hide (hcs.out wr (hkA.trans hkw))
          clear hcs hC
          cases h1 : (n == [105, 109, 103])
          · rw [h1, Bool.false_and, if_neg (by simp)] at hR2
            subst hR2
            have p1 := (nameEq n _).trans h1
            go_wp2_with fail
            refine hcs2.out.mono ?_
            rintro e w2 ⟨rfl, hk2⟩
            have e0 := C0.out w2 (hkw.trans hk2)
            clear d0 d1
            go_wp2_with fail
            go_end0
            first | exact ⟨.inl ⟨trivial, rfl⟩, hkA.trans (hkw.trans hk2)⟩ | exact ⟨rfl, hkA.trans (hkw.trans hk2)⟩
          · have p1 := (nameEq n _).trans h1
            cases h2 : hasSrc l
            · rw [h1, h2] at hR2
              rw [h2] at hcs2
              have hR3 : R = 5 := hR2.symm
              subst hR3
              go_wp2_with fail
              refine hcs2.out.mono ?_
              rintro e w2 ⟨rfl, hk2⟩
              have e0 := C0.out w2 (hkw.trans hk2)
              clear d0 d1
              go_wp2_with fail
              refine (with_any 5 _).mono ?_
              rintro e w3 ⟨rfl, h9⟩
              subst h9
              exact ⟨rfl, .inr ⟨by decide, rfl⟩, hkA.trans (hkw.trans hk2)⟩
            · rw [h1, h2] at hR2
              rw [h2] at hcs2
              have hR3 : R = 0 := hR2.symm
              subst hR3
              go_wp2_with fail
              refine hcs2.out.mono ?_
              rintro e w2 ⟨rfl, hk2⟩
              have e0 := C0.out w2 (hkw.trans hk2)
              clear d0 d1
              go_wp2_with fail
              go_end0
              first | exact ⟨.inl ⟨trivial, rfl⟩, hkA.trans (hkw.trans hk2)⟩ | exact ⟨rfl, hkA.trans (hkw.trans hk2)⟩
  · rw [he, if_pos rfl] at hR
    subst hR
    go_enter Tryz.func89, Tryz.ntmps89
    go_wp2_with fail
    refine bodyPost_ret (v := .tuple #[]) (by simp [results, Tryz.results89]) rfl ?_
    exact ⟨.inl ⟨trivial, rfl⟩, by first | exact hkA | exact hW ▸ hkA⟩
end Go.Proofs.YtlcljanibjdejaaGreat

namespace Go.Proofs.YtlcljanibjdejaaGreat
open Go.RowKit Go.Maps

/-- Nodes that are only read, in any blocks. -/
theorem Ns.keeps0 {w w' : World} {P : Nat → Prop} {v : Value} {ns : List Nd} (h : Ns w P v ns) (hk : Keeps [] w w') : Ns w' P v ns := h.keeps hk (fun _ _ => List.not_mem_nil)

theorem textNs_drop (gone : Bool) (l : List Pn) (k : Nat) (hk : k < l.length) : textNs gone ((l.drop k).map Pn.nd) = (if (gone && goneN l[k].nd.name) = true then [] else l[k].nd.text ++ textNs gone l[k].nd.kids) ++ textNs gone ((l.drop (k + 1)).map Pn.nd) := by
  rw [List.drop_eq_getElem_cons hk, List.map_cons]
  generalize l[k] = p
  obtain ⟨⟨n, a, t, ks⟩, av, kv⟩ := p
  rw [textNs]
  rfl

/-- How much text there is in a tree, all in all. -/
def bytesNs : List Nd → Nat
  | [] => 0
  | .mk _ _ t k :: r => t.length + bytesNs k + bytesNs r
theorem bytesNs_drop (l : List Pn) (k : Nat) (hk : k < l.length) : bytesNs ((l.drop k).map Pn.nd) = l[k].nd.text.length + bytesNs l[k].nd.kids + bytesNs ((l.drop (k + 1)).map Pn.nd) := by
  rw [List.drop_eq_getElem_cons hk, List.map_cons]
  generalize l[k] = p
  obtain ⟨⟨n, a, t, ks⟩, av, kv⟩ := p
  rw [bytesNs]
  rfl
theorem text_bytes (gone : Bool) : (ns : List Nd) → (textNs gone ns).length ≤ bytesNs ns
  | [] => by simp [textNs, bytesNs]
  | .mk n a t k :: r => by
    have h1 := text_bytes gone k
    have h2 := text_bytes gone r
    rw [textNs, bytesNs, List.length_append]
    split
    · simp; omega
    · simp; omega

theorem str_append (x y : List UInt8) : (⟨x.toArray⟩ : ByteArray) ++ ⟨y.toArray⟩ = ⟨(x ++ y).toArray⟩ := WideShapes.bytes_inj (by simp)

end Go.Proofs.YtlcljanibjdejaaGreat

namespace Go.Proofs.YtlcljanibjdejaaGreat
open Go.RowKit Go.Maps

set_option maxRecDepth 8000 in
set_option maxHeartbeats 8000000 in
theorem sameNodes_eq (P Q : Nat → Prop) (w0 : World) (va : Value) (ns : List Nd) (h : Ns w0 P va ns) : ∀ (vb : Value) (w : World), Keeps [] w0 w → Ns w Q vb ns →
    Calls Tryz.prog 25 #[va, vb] w fun e w' => e = .returned (.bool true) ∧ ∃ n, w' = w.drewN n := by
  induction h with
  | mk v la ns hns hl haa hk ih =>
    intro vb w hkw hb
    cases hb with
    | mk _ lb _ hnb hlb hab hkb =>
    have hM : la.map Pn.nd = lb.map Pn.nd := hns.trans hnb.symm
    have hlen : la.length = lb.length := by simpa using congrArg List.length hM
    have hn : (((la.length : Int) != (lb.length : Int))) = false := by simp; omega
    have hla := (hl.keeps hkw (fun _ _ => List.not_mem_nil)).lies
    obtain ⟨oa, ca, rfl, h1, h2⟩ := hla.form
    have hlb' := hlb.lies
    obtain ⟨ob, cb, rfl, h3, h4⟩ := hlb'.form
    unfold maxLen at h2 h4
    have HL := hide hlen
    have HM := hide hM
    have HA := hide hla
    have HB := hide hlb'
    have HI := hide ih
    have HK := hide hkw
    have HAA := hide haa
    have HAB := hide hab
    have HKB := hide hkb
    clear hlen hM hla hlb' ih hkw haa hab hkb hl hlb hk hns hnb
    go_enter Tryz.func25, Tryz.ntmps25
    go_wp2_with fail
    go_loopw [5] (fun i wr => ∃ k : Nat, k ≤ la.length ∧ i = .int .i64 k ∧ Hid (∃ m, wr = w.drewN m)) (fun i _ => la.length - (intOf i).toNat)
    case atStart => exact ⟨0, Nat.zero_le _, rfl, 0, rfl⟩
    case round =>
      obtain ⟨k, hk, rfl, hW⟩ := hrel
      have hkw : Keeps [] w wr := by obtain ⟨m, hm⟩ := hW.out; rw [hm]; exact (Keeps.refl _ _).drewN _
      by_cases hlt : k < la.length
      · obtain ⟨ga, xa, ea, hca⟩ := (HA.out.keeps hkw).addr (by omega)
        obtain ⟨gb, xb, eb, hcb⟩ := (HB.out.keeps hkw).addr (by rw [← HL.out]; omega)
        subst ea
        subst eb
        have hltb : k < lb.length := by rw [← HL.out]; exact hlt
        obtain ⟨a0, a1, a2, a3⟩ := lies_pn hca k hlt
        obtain ⟨b0, b1, b2, b3⟩ := lies_pn hcb k hltb
        have hpq : la[k].nd = lb[k].nd := by
          have h9 : (la.map Pn.nd)[k]? = (lb.map Pn.nd)[k]? := by rw [HM.out]
          simpa [List.getElem?_eq_getElem hlt, List.getElem?_eq_getElem hltb] using h9
        have hpa := ((HAA.out la[k] (List.getElem_mem hlt)).keeps (HK.out.trans hkw) (fun _ _ => List.not_mem_nil)).lies
        have hpb := ((HAB.out lb[k] (List.getElem_mem hltb)).keeps hkw (fun _ _ => List.not_mem_nil)).lies
        have hsa := hide (fun n : Nat => sameAttrs_any (wr.drewN n) la[k].av lb[k].av la[k].nd.attrs lb[k].nd.attrs (hpa.keeps ((Keeps.refl [] wr).drewN n)) (hpb.keeps ((Keeps.refl [] wr).drewN n)))
        have hkb := HKB.out lb[k] (List.getElem_mem hltb)
        rw [← hpq] at hkb
        have hsn := hide (fun n : Nat => HI.out la[k] (List.getElem_mem hlt) lb[k].kv (wr.drewN n) ((HK.out.trans hkw).drewN n) (hkb.keeps0 (hkw.drewN n)))
        clear hca hcb hpa hpb hkb
        generalize la[k] = p at *
        generalize lb[k] = q at *
        obtain ⟨np, avp, kvp⟩ := p
        obtain ⟨nq', avq, kvq⟩ := q
        simp only at hpq
        subst hpq
        simp only at a0 a1 a2 a3 b0 b1 b2 b3 hsa hsn
        simp only [decide_true] at hsa
        generalize np.name = nm at *
        generalize np.text = tx at *
        go_wp2_with fail
        go_quiet ((first | (go_at_call 92; exact Calls.quiet_of (hsa.out _)) | (go_at_call 25; exact Calls.quiet_of (hsn.out _))))
        go_wp2_with fail
        go_roundw
        case rel => exact ⟨k + 1, by omega, by go_num, by obtain ⟨m, hm⟩ := hW.out; exact ⟨m + nq, by rw [hm]; simp⟩⟩
        case measure => simp [intOf]; omega
      · go_wp2_with fail
        go_ret
        exact ⟨rfl, hW.out⟩
end Go.Proofs.YtlcljanibjdejaaGreat

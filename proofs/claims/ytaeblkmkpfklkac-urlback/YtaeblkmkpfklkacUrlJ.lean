/- Safe: bare. -/
import Derived.Test.YtaeblkmkpfklkacUrlI
namespace Go.Proofs.Ytaeblkmkpfklkac
open Go.RowKit

theorem enters40 : Enters 40 := enters_of Try.func40 (by kernel_rfl) (by kernel_rfl)
theorem enters41 : Enters 41 := enters_of Try.func41 (by kernel_rfl) (by kernel_rfl)

def gtB (c : UInt8) : Bool := decide (32 < c.toNat)
def leB (c : UInt8) : Bool := decide (c.toNat ≤ 32)

set_option maxHeartbeats 400000 in
theorem gt_any (c : UInt8) (w : World) : Calls Try.prog 40 #[.int .u8 c.toNat] w fun e w' => e = .returned (.bool (gtB c)) ∧ w' = w := by
  unfold gtB
  go_enter Try.func40, Try.ntmps40
  go_wp2
  go_ret
  refine ⟨ret_bool ?_, rfl⟩
  rw [Bool.eq_iff_iff]; simp; omega

set_option maxHeartbeats 400000 in
theorem le_any (c : UInt8) (w : World) : Calls Try.prog 41 #[.int .u8 c.toNat] w fun e w' => e = .returned (.bool (leB c)) ∧ w' = w := by
  unfold leB
  go_enter Try.func41, Try.ntmps41
  go_wp2
  go_ret
  refine ⟨ret_bool ?_, rfl⟩
  rw [Bool.eq_iff_iff]; simp; omega

theorem keeps_of_drewN {S : List Nat} {w w' : World} {n : Nat} (h : Keeps S (w.drewN n) w') : Keeps S w w' := ⟨h.os, h.tape, h.output, h.size, h.block⟩
theorem bare_app (x y : List UInt8) : bareL (x ++ y) = bareL x ++ bareL y := by simp [bareL]
theorem bare_tw (f : UInt8 → Bool) (l : List UInt8) : ∀ d ∈ l.takeWhile f, f d = true := fun d hd => List.all_eq_true.1 (List.all_takeWhile (p := f) (l := l)) d hd

/-- One round of bare. -/
theorem bare_step (l : List UInt8) (k : Nat) : bareL (l.take (k + ((l.drop k).takeWhile gtB).length + ((l.drop (k + ((l.drop k).takeWhile gtB).length)).takeWhile leB).length)) = bareL (l.take k) ++ (l.drop k).takeWhile gtB := by
  have tk : ∀ (f : UInt8 → Bool) (k : Nat), l.take (k + ((l.drop k).takeWhile f).length) = l.take k ++ (l.drop k).takeWhile f := fun f k => by
    rw [List.take_add]
    congr 1
    exact (List.prefix_iff_eq_take.1 (List.takeWhile_prefix _)).symm
  rw [tk leB, tk gtB, bare_app, bare_app]
  have e1 : bareL ((l.drop k).takeWhile gtB) = (l.drop k).takeWhile gtB := by
    unfold bareL
    exact List.filter_eq_self.2 (bare_tw gtB (l.drop k))
  have e2 : bareL ((l.drop (k + ((l.drop k).takeWhile gtB).length)).takeWhile leB) = [] := by
    unfold bareL
    refine List.filter_eq_nil_iff.2 fun d hd => ?_
    have := bare_tw leB _ d hd
    simp [leB] at this ⊢
    exact this
  rw [e1, e2, List.append_nil]

theorem bare_more (l : List UInt8) (k : Nat) (h : k < l.length) : k < k + ((l.drop k).takeWhile gtB).length + ((l.drop (k + ((l.drop k).takeWhile gtB).length)).takeWhile leB).length := by
  cases hg : gtB l[k]
  · have e1 : (l.drop k).takeWhile gtB = [] := by rw [List.drop_eq_getElem_cons h, List.takeWhile_cons, hg]; rfl
    have hl : leB l[k] = true := by simp [gtB] at hg; simpa [leB] using hg
    have e2 : 0 < ((l.drop k).takeWhile leB).length := by rw [List.drop_eq_getElem_cons h, List.takeWhile_cons, hl]; exact Nat.succ_pos _
    rw [e1, List.length_nil, Nat.add_zero]
    omega
  · have e1 : 0 < ((l.drop k).takeWhile gtB).length := by rw [List.drop_eq_getElem_cons h, List.takeWhile_cons, hg]; exact Nat.succ_pos _
    omega

theorem bare_len (l : List UInt8) : (bareL l).length ≤ l.length := List.length_filter_le _ _

theorem IsBld.keepsT {B d b : Nat} {l : List UInt8} {w w' : World} (h : IsBld B d l w) (hk : Keeps [b] w w') (hb : b < B) : IsBld B d l w' := by
  rcases h with ⟨hB, v, hb', ho, hne⟩ | ⟨hB, v, hb', ho, hne⟩
  · exact .inl ⟨hB, v, by rw [hk.block d (lt_of_block hb') (by simp; omega)]; exact hb', hk.owns ho (fun g hg => by have := (ho.lt g hg).1; simp; omega), hne⟩
  · exact .inr ⟨hB, v, by rw [hk.block d (lt_of_block hb') (by simp; omega)]; exact hb', hk.owns ho (fun g hg => by have := (ho.lt g hg).1; simp; omega), hne⟩
theorem KeepsB.text {B d : Nat} {w w' : World} {b : Nat} {s : ByteArray} {k : Nat} (h : KeepsB B d w w') (hT : IsText w b s k) (hb : b < B) (hd : b ≠ d) : IsText w' b s k := by
  rw [IsText, h.block b hT.lt hd (.inl hb)]; exact hT

set_option maxRecDepth 4000 in
set_option maxHeartbeats 4000000 in
theorem bare_any (s : ByteArray) (w : World) (hs : s.size ≤ 3000) :
    Calls Try.prog 17 #[.string s] w fun e w' => e = .returned (.string ⟨(bareL s.data.toList).toArray⟩) ∧ Keeps [] w w' := by
  have p1 := hide (fun k (w : World) hT hk => pass_of 40 gtB enters40 gt_any w.heap.size s k w hs hT hk)
  have P1 := hide (fun b k (w : World) hT hk => pass_of 40 gtB enters40 gt_any b s k w hs hT hk)
  have P2 := hide (fun b k (w : World) hT hk => pass_of 41 leB enters41 le_any b s k w hs hT hk)
  clear p1
  have hln := len_size s
  go_enter Try.func17, Try.ntmps17
  go_wp2_with fail
  refine (new_any s _).mono ?_
  rintro e w1 ⟨rfl, rfl⟩
  go_wp2_with fail
  have hT0 : IsText ((w.alloc (.cells #[.string s, .int .i64 0] 66)).alloc (.cells #[.pointer none, .slice none 0 0] 52)) w.heap.size s 0 := by
    unfold IsText
    rw [Below.heap_alloc _ _ _ (by simp)]
    exact heap_alloc_new _ _
  have hB0 : IsBld (w.heap.size + 1) (w.heap.size + 1) [] ((w.alloc (.cells #[.string s, .int .i64 0] 66)).alloc (.cells #[.pointer none, .slice none 0 0] 52)) := by
    have := bld_new (w.alloc (.cells #[.string s, .int .i64 0] 66))
    rw [show (w.alloc (.cells #[.string s, .int .i64 0] 66)).heap.size = w.heap.size + 1 from by simp] at this
    exact this
  have hK0 : Keeps [] w ((w.alloc (.cells #[.string s, .int .i64 0] 66)).alloc (.cells #[.pointer none, .slice none 0 0] 52)) := ((Keeps.refl [] w).alloc _).alloc _
  have hZ0 : w.heap.size + 1 ≤ ((w.alloc (.cells #[.string s, .int .i64 0] 66)).alloc (.cells #[.pointer none, .slice none 0 0] 52)).heap.size := by simp
  go_loopw [9] (fun _ wr => ∃ k : Nat, k ≤ s.size ∧ IsText wr w.heap.size s k ∧ IsBld (w.heap.size + 1) (w.heap.size + 1) (bareL (s.data.toList.take k)) wr ∧ Keeps [] w wr ∧ w.heap.size + 1 ≤ wr.heap.size) (fun _ wr => s.size - (intOf ((wr.cell? ⟨w.heap.size, 1, none⟩).getD undef)).toNat)
  case atStart => exact ⟨0, Nat.zero_le _, hT0, by simpa [bareL] using hB0, hK0, hZ0⟩
  case round =>
    obtain ⟨k, hk, hT, hB, hK, hZ⟩ := hrel
    clear hT0 hB0 hK0 hZ0
    have c1 := hT.cell1
    by_cases hlt : k < s.size
    · have hd : decide (s.size ≤ k) = false := by simp; omega
      have HS := hide (bare_step s.data.toList k)
      have HM := hide (bare_more s.data.toList k (by rw [hln]; exact hlt))
      have l1 := takeWhile_le gtB s k hk
      have hbl : (bareL (s.data.toList.take k)).length ≤ 3000 := by
        have h1 := bare_len (s.data.toList.take k)
        have h2 : (s.data.toList.take k).length ≤ s.data.toList.length := (List.take_sublist _ _).length_le
        omega
      go_wp2_with fail
      refine (done_any _ s k _ hT).mono ?_
      rintro e w2 ⟨rfl, n2, rfl⟩
      rw [hd]
      have hT2 : IsText (wr.drewN n2) w.heap.size s k := hT
      go_wp2_with fail
      refine (P1.out _ k _ hT2 hk).mono ?_
      rintro e w3 ⟨rfl, hT3, hk3⟩
      have hB3 := hB.keepsT (keeps_of_drewN hk3) (by omega)
      have hK3 : Keeps [] w w3 := (hK.mono (T := [w.heap.size]) (by simp)).trans (keeps_of_drewN hk3) |>.mono (fun i hi hlt => by simp at hi; omega)
      have hz3 := hk3.size
      have l2 := takeWhile_le leB s (k + ((s.data.toList.drop k).takeWhile gtB).length) l1
      generalize hG : (s.data.toList.drop k).takeWhile gtB = G at *
      clear hG
      go_wp2_with fail
      refine (write_all (w.heap.size + 1) (w.heap.size + 1) _ G _ hB3 (by omega) (by simp at hz3; omega)).mono ?_
      rintro e w4 ⟨rfl, hB4, hk4⟩
      have hT4 := hk4.text hT3 (by omega) (by omega)
      have hK4 : Keeps [] w w4 := KeepsB.nil hK3 hk4 (by omega) (Nat.le_refl _)
      have hz4 := hk4.size
      go_wp2_with fail
      refine (P2.out _ _ _ hT4 l1).mono ?_
      rintro e w5 ⟨rfl, hT5, hk5⟩
      have hB5 := hB4.keepsT hk5 (by omega)
      rw [← HS.out] at hB5
      have hK5 : Keeps [] w w5 := (hK4.mono (T := [w.heap.size]) (by simp)).trans hk5 |>.mono (fun i hi hlt => by simp at hi; omega)
      have hz5 := hk5.size
      go_wp2_with fail
      go_roundw
      case rel => exact ⟨_, l2, hT5, hB5, hK5, by simp at hz3; omega⟩
      case measure =>
        have h5 := hT5.cell1
        rw [h5, c1]
        simp only [intOf, Option.getD_some]
        have := HM.out
        omega
    · have hd : decide (s.size ≤ k) = true := by simp; omega
      have he : s.data.toList.take k = s.data.toList := List.take_of_length_le (by rw [hln]; omega)
      rw [he] at hB
      obtain ⟨A, hA⟩ : ∃ A, bareL s.data.toList = A := ⟨_, rfl⟩
      rw [hA] at hB
      have HA := hide hA
      clear hA he
      go_wp2_with fail
      refine (done_any _ s k _ hT).mono ?_
      rintro e w2 ⟨rfl, n2, rfl⟩
      rw [hd]
      have hB2 : IsBld (w.heap.size + 1) (w.heap.size + 1) A (wr.drewN n2) := hB
      go_wp2_with fail
      refine (Try.Builder_String_any _ _ A _ hB2 (by simpa using hZ)).mono ?_
      rintro e w3 ⟨rfl, hb3⟩
      have hK3 : Keeps [] w w3 := by
        have h6 : Below w.heap.size wr w3 := ⟨hb3.os, hb3.tape, hb3.output, hb3.size, fun k hk => hb3.block k (by omega)⟩
        exact ⟨h6.os.trans hK.os, h6.tape.trans hK.tape, h6.output.trans hK.output, Nat.le_trans hK.size h6.size, fun k hk _ => (h6.block k hk).trans (hK.block k hk List.not_mem_nil)⟩
      go_wp2_with fail
      go_ret
      exact ⟨by rw [HA.out]; simp, hK3⟩

set_option maxHeartbeats 400000 in
theorem safe_long (s : ByteArray) (w : World) (hm : s.size ≤ maxLen) (h : 3000 < s.size) :
    Calls Try.prog 11 #[.string s] w fun e w' => e = .returned (.tuple #[.bool false, .int .i64 2]) ∧ w' = w := by
  unfold maxLen at hm
  have hd : decide ((3000 : Int) < (s.size : Int)) = true := by simp; omega
  go_enter Try.func11, Try.ntmps11
  go_wp2_with fail
  go_ret2
  exact ⟨rfl, rfl⟩

theorem field0 (u : UrlT) (w : World) : (Instr.field 23 (.agg #[.string ⟨u.scheme.toArray⟩, .string ⟨u.authority.toArray⟩, .string ⟨u.path.toArray⟩, .string ⟨u.query.toArray⟩, .string ⟨u.fragment.toArray⟩, .bool u.hs, .bool u.ha, .bool u.hq, .bool u.hf]) 0).run Try.prog w = .ok (.string ⟨u.scheme.toArray⟩) w := by
  kernel_rfl

set_option maxRecDepth 4000 in
set_option maxHeartbeats 2000000 in
theorem safe_any (s : ByteArray) (w : World) (hs : s.size ≤ 3000) (hM : HasMax w) :
    Calls Try.prog 11 #[.string s] w fun e w' => e = .returned (.tuple #[.bool (safeL s.data.toList), .int .i64 0]) ∧ Keeps [] w w' := by
  have hd : decide ((3000 : Int) < (s.size : Int)) = false := by simp; omega
  have hb := hide (bare_any s w hs)
  have hbl := bare_len s.data.toList
  rw [len_size] at hbl
  have hsp := hide (fun w hM => split_any ⟨(bareL s.data.toList).toArray⟩ w (by rw [str_size]; omega) hM)
  rw [str_list] at hsp
  have hsl := split_len (bareL s.data.toList)
  have hlo := hide (fun w => lower_any ⟨(splitL (bareL s.data.toList)).scheme.toArray⟩ w (by rw [str_size]; omega))
  rw [str_list] at hlo
  have HS : Hid (safeL s.data.toList = okS (lowerL (splitL (bareL s.data.toList)).scheme)) := rfl
  obtain ⟨A, hA⟩ : ∃ A, safeL s.data.toList = A := ⟨_, rfl⟩
  rw [hA] at HS ⊢
  clear hA hbl hsl
  generalize bareL s.data.toList = B at *
  generalize splitL B = u at *
  generalize lowerL u.scheme = L at *
  unfold urlV urlCells at hsp
  have hfd := field0 u
  have q1 : ∀ l : List UInt8, ((⟨L.toArray⟩ : ByteArray).toList == l) = (L == l) := fun l => by rw [ByteArray.toList_eq]
  have HQ : Hid (A = (L == [104, 116, 116, 112] || L == [104, 116, 116, 112, 115] || L == [109, 97, 105, 108, 116, 111])) := HS.out
  cases h1 : (L == [104, 116, 116, 112]) <;> cases h2 : (L == [104, 116, 116, 112, 115]) <;> cases h3 : (L == [109, 97, 105, 108, 116, 111])
  all_goals
    rw [h1, h2, h3] at HQ
    have p1 := (q1 [104, 116, 116, 112]).trans h1
    have p2 := (q1 [104, 116, 116, 112, 115]).trans h2
    have p3 := (q1 [109, 97, 105, 108, 116, 111]).trans h3
    clear q1 HS
    go_enter Try.func11, Try.ntmps11
    go_wp2_with fail
    refine hb.out.mono ?_
    rintro e w1 ⟨rfl, hk1⟩
    go_wp2_with fail
    refine (hsp.out _ (hM.keeps hk1 (by simp))).mono ?_
    rintro e w2 ⟨rfl, hk2⟩
    go_wp2_with fail
    refine (hlo.out _).mono ?_
    rintro e w3 ⟨rfl, hk3⟩
    go_wp2_with fail
    go_ret2
    exact ⟨by rw [HQ.out]; rfl, (hk1.trans hk2).trans hk3⟩
end Go.Proofs.Ytaeblkmkpfklkac

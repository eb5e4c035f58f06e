/- row: the bytes of a code point, as the document's answer makes them. -/
import Derived.Test.YtaeblkmkpfklkaaRef
import Derived.Laws.BytesArg
namespace Go.Proofs.Ytaeblkmkpfklkaa
open Go.RowKit

theorem conv_new (W : World) (g : Nat) (hg : g = W.heap.size) (xs : List Int) :
    (convert 44 9 (.slice (some ⟨g, 0, none⟩) xs.length xs.length)).run Try.prog (W.alloc (.cells (xs.map (Value.int .u8)).toArray 5)) = .ok (.string (strOfNums xs)) (W.alloc (.cells (xs.map (Value.int .u8)).toArray 5)) := by
  subst hg
  refine run_convert_bytes_arg _ 44 5 Try.underlying44 Try.underlying5 W.heap.size 0 xs.length xs.length xs rfl ?_ 9 Try.underlying9
  intro i hi
  unfold World.cell?
  rw [show (⟨W.heap.size, 0 + i, none⟩ : Addr).block = W.heap.size from rfl, heap_alloc_new W (.cells (xs.map (Value.int .u8)).toArray 5)]
  simp [hi]

set_option maxHeartbeats 1000000 in
theorem row_one (n : Nat) (h0 : 1 ≤ n) (h1 : n < 128) (w : World) :
    Calls Try.prog 56 #[.int .i64 n] w fun e w' => e = .returned (.string (strOfNums [(n : Int)])) ∧ Keeps [] w w' := by
  have hc := fun x0 => conv_new w (w.heap.size) rfl [x0]
  simp only [List.map_cons, List.map_nil, List.length_cons, List.length_nil, Nat.zero_add] at hc
  have b1 : decide ((128 : Int) ≤ (n : Int)) = false := by simp; omega
  have b2 : decide ((2048 : Int) ≤ (n : Int)) = false := by simp; omega
  have b3 : decide ((65536 : Int) ≤ (n : Int)) = false := by simp; omega
  go_enter Try.func56, Try.ntmps56
  go_wp2
  go_ret
  exact ⟨rfl, ((Keeps.refl [] w).alloc _)⟩

set_option maxHeartbeats 1000000 in
theorem row_two (n : Nat) (h0 : 128 ≤ n) (h1 : n < 2048) (w : World) :
    Calls Try.prog 56 #[.int .i64 n] w fun e w' => e = .returned (.string (strOfNums [192 + (n : Int) / 64, 128 + (n : Int) % 64])) ∧ Keeps [] w w' := by
  have hc := fun (o1 : Obj) x0 x1 => conv_new (w.alloc o1) (w.heap.size + 1) (by simp) [x0, x1]
  simp only [List.map_cons, List.map_nil, List.length_cons, List.length_nil, Nat.zero_add, Nat.reduceAdd] at hc
  have b1 : decide ((128 : Int) ≤ (n : Int)) = true := by simp; omega
  have b2 : decide ((2048 : Int) ≤ (n : Int)) = false := by simp; omega
  have b3 : decide ((65536 : Int) ≤ (n : Int)) = false := by simp; omega
  go_enter Try.func56, Try.ntmps56
  go_wp2
  go_ret
  exact ⟨rfl, (((Keeps.refl [] w).alloc _).alloc _)⟩

set_option maxHeartbeats 1000000 in
theorem row_three (n : Nat) (h0 : 2048 ≤ n) (h1 : n < 65536) (w : World) :
    Calls Try.prog 56 #[.int .i64 n] w fun e w' => e = .returned (.string (strOfNums [224 + (n : Int) / 4096, 128 + (n : Int) / 64 % 64, 128 + (n : Int) % 64])) ∧ Keeps [] w w' := by
  have hc := fun (o1 : Obj) (o2 : Obj) x0 x1 x2 => conv_new ((w.alloc o1).alloc o2) (w.heap.size + 2) (by simp) [x0, x1, x2]
  simp only [List.map_cons, List.map_nil, List.length_cons, List.length_nil, Nat.zero_add, Nat.reduceAdd] at hc
  have b1 : decide ((128 : Int) ≤ (n : Int)) = true := by simp; omega
  have b2 : decide ((2048 : Int) ≤ (n : Int)) = true := by simp; omega
  have b3 : decide ((65536 : Int) ≤ (n : Int)) = false := by simp; omega
  go_enter Try.func56, Try.ntmps56
  go_wp2
  go_ret
  exact ⟨rfl, ((((Keeps.refl [] w).alloc _).alloc _).alloc _)⟩

set_option maxHeartbeats 1000000 in
theorem row_four (n : Nat) (h0 : 65536 ≤ n) (h1 : n < 1114112) (w : World) :
    Calls Try.prog 56 #[.int .i64 n] w fun e w' => e = .returned (.string (strOfNums [240 + (n : Int) / 262144, 128 + (n : Int) / 4096 % 64, 128 + (n : Int) / 64 % 64, 128 + (n : Int) % 64])) ∧ Keeps [] w w' := by
  have hc := fun (o1 : Obj) (o2 : Obj) (o3 : Obj) x0 x1 x2 x3 => conv_new (((w.alloc o1).alloc o2).alloc o3) (w.heap.size + 3) (by simp) [x0, x1, x2, x3]
  simp only [List.map_cons, List.map_nil, List.length_cons, List.length_nil, Nat.zero_add, Nat.reduceAdd] at hc
  have b1 : decide ((128 : Int) ≤ (n : Int)) = true := by simp; omega
  have b2 : decide ((2048 : Int) ≤ (n : Int)) = true := by simp; omega
  have b3 : decide ((65536 : Int) ≤ (n : Int)) = true := by simp; omega
  go_enter Try.func56, Try.ntmps56
  go_wp2
  go_ret
  exact ⟨rfl, (((((Keeps.refl [] w).alloc _).alloc _).alloc _).alloc _)⟩

theorem rune_str (r : Int) : strOfNums (Lib.encodeRuneZ r) = ⟨(Lib.encodeRune r).toArray⟩ := rfl

theorem row_any (n : Nat) (h : standsL n = true) (w : World) :
    Calls Try.prog 56 #[.int .i64 n] w fun e w' => e = .returned (.string ⟨(Lib.encodeRune n).toArray⟩) ∧ Keeps [] w w' := by
  have hs : 0 < n ∧ n ≤ 1114111 ∧ ¬ (55296 ≤ n ∧ n ≤ 57343) := by
    simp only [standsL, Bool.and_eq_true, decide_eq_true_eq, Bool.not_eq_true', Bool.and_eq_false_iff, decide_eq_false_iff_not] at h
    omega
  rw [← rune_str]
  rcases (show n < 128 ∨ (128 ≤ n ∧ n < 2048) ∨ (2048 ≤ n ∧ n < 65536) ∨ 65536 ≤ n from by omega) with h1 | h1 | h1 | h1
  · rw [Lib.encodeRuneZ_one (by omega) (by omega)]
    exact row_one n (by omega) h1 w
  · rw [Lib.encodeRuneZ_two (by omega) (by omega)]
    exact row_two n h1.1 h1.2 w
  · rw [Lib.encodeRuneZ_three (by omega)]
    exact row_three n h1.1 h1.2 w
  · rw [Lib.encodeRuneZ_four (by omega) (by omega)]
    exact row_four n h1 (by omega) w

theorem app_str (a b : ByteArray) : (a ++ b).data.toList = a.data.toList ++ b.data.toList := by simp

theorem app_eq (l : List UInt8) (t : ByteArray) (r : List UInt8) (h : r = l ++ t.data.toList) : Value.string ((⟨l.toArray⟩ : ByteArray) ++ t) = Value.string ⟨r.toArray⟩ := by
  have : (⟨l.toArray⟩ : ByteArray) ++ t = ⟨r.toArray⟩ := WideShapes.bytes_inj (by rw [app_str, h])
  rw [this]

theorem one_byte (s : ByteArray) (k : Nat) (hk : k < s.size) : (s.extract k (k + 1)).data.toList = [s[k]] := by
  have hl : k < s.data.toList.length := by simpa using hk
  rw [Lib.extract_data, Nat.add_sub_cancel_left, List.drop_eq_getElem_cons hl]
  simp
  rfl

set_option maxHeartbeats 2000000 in
theorem putOf_any (s : ByteArray) (w : World) (hs : s.size ≤ 2000000) :
    Calls Try.prog 13 #[.string s] w fun e w' => e = .returned (.string ⟨(putL s.data.toList).toArray⟩) ∧ w' = w := by
  rw [← putTo_all]
  go_enter Try.func13, Try.ntmps13
  go_wp2_with fail
  go_loop [3, 4] (fun o i => ∃ k : Nat, k ≤ s.size ∧ i = .int .i64 k ∧ o = .string ⟨(putTo s k).toArray⟩) (fun _ i => s.size - (intOf i).toNat)
  case atStart => exact ⟨0, Nat.zero_le _, rfl, by rw [putTo_zero]⟩
  case round =>
    obtain ⟨k, hk, rfl, rfl⟩ := hrel
    have hlen := putTo_len s k
    have hlen2 : (⟨(putTo s k).toArray⟩ : ByteArray).size = (putTo s k).length := by simp [ByteArray.size]
    by_cases hlt : k < s.size
    · have HS := hide (putTo_succ s k hlt)
      by_cases h1 : s[k] = 38
      · have h1' : (s[k].toNat : Int) = 38 := by rw [h1]; rfl
        have HB := hide (show putB s[k] = putB 38 from by rw [h1])
        clear h1
        go_wp2
        go_round
        case rel => exact ⟨k + 1, by omega, by go_num, app_eq _ _ _ (by rw [HS.out, HB.out]; rfl)⟩
        case measure => simp [intOf]; omega
      by_cases h2 : s[k] = 60
      · have h2' : (s[k].toNat : Int) = 60 := by rw [h2]; rfl
        have HB := hide (show putB s[k] = putB 60 from by rw [h2])
        clear h1 h2
        go_wp2
        go_round
        case rel => exact ⟨k + 1, by omega, by go_num, app_eq _ _ _ (by rw [HS.out, HB.out]; rfl)⟩
        case measure => simp [intOf]; omega
      by_cases h3 : s[k] = 62
      · have h3' : (s[k].toNat : Int) = 62 := by rw [h3]; rfl
        have HB := hide (show putB s[k] = putB 62 from by rw [h3])
        clear h1 h2 h3
        go_wp2
        go_round
        case rel => exact ⟨k + 1, by omega, by go_num, app_eq _ _ _ (by rw [HS.out, HB.out]; rfl)⟩
        case measure => simp [intOf]; omega
      by_cases h4 : s[k] = 34
      · have h4' : (s[k].toNat : Int) = 34 := by rw [h4]; rfl
        have HB := hide (show putB s[k] = putB 34 from by rw [h4])
        clear h1 h2 h3 h4
        go_wp2
        go_round
        case rel => exact ⟨k + 1, by omega, by go_num, app_eq _ _ _ (by rw [HS.out, HB.out]; rfl)⟩
        case measure => simp [intOf]; omega
      have e1 : ((s[k].toNat : Int) == 38) = false := byte_no (d := 38) rfl h1
      have e2 : ((s[k].toNat : Int) == 60) = false := byte_no (d := 60) rfl h2
      have e3 : ((s[k].toNat : Int) == 62) = false := byte_no (d := 62) rfl h3
      have e4 : ((s[k].toNat : Int) == 34) = false := byte_no (d := 34) rfl h4
      have HB := hide (show putB s[k] = [s[k]] from by simp [putB, h1, h2, h3, h4])
      clear h1 h2 h3 h4
      go_wp2
      go_round
      case rel => exact ⟨k + 1, by omega, by go_num, app_eq _ _ _ (by rw [HS.out, HB.out, one_byte s k hlt])⟩
      case measure => simp [intOf]; omega
    · have he : k = s.size := by omega
      subst he
      go_wp2
      go_ret
      exact ⟨rfl, rfl⟩
end Go.Proofs.Ytaeblkmkpfklkaa

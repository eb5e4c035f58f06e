/- Small facts: what a call enters, bytes held against one another, lists and strings; small letters. -/
import Derived.Test.YtaeblkmkpfklkacPass
import Derived.Test.YtaeblkmkpfklkacShelf
import Derived.Test.YtaeblkmkpfklkacTokMath
import Derived.Laws.IdiomStrings
import Derived.Lib.IndexBytes
namespace Go.Proofs.Ytaeblkmkpfklkac
open Go.RowKit
theorem ret_int {k : IntKind} {a b : Int} (h : a = b) : Ending.returned (.int k a) = .returned (.int k b) := by rw [h]
theorem ret_bool {a b : Bool} (h : a = b) : Ending.returned (.bool a) = .returned (.bool b) := by rw [h]

theorem byte_bne (c d : UInt8) : ((c.toNat : Int) != (d.toNat : Int)) = (c != d) := by
  rw [Bool.eq_iff_iff, bne_iff_ne, bne_iff_ne, Ne, Ne, Int.ofNat_inj, UInt8.toNat_inj]
theorem byte_beq (c d : UInt8) : ((c.toNat : Int) == (d.toNat : Int)) = (c == d) := by
  rw [Bool.eq_iff_iff, beq_iff_eq, beq_iff_eq, Int.ofNat_inj, UInt8.toNat_inj]

theorem enters_of {f : FuncId} {fn : Func} (hf : Try.prog.funcs[f]? = some fn) (hname : (fn.name == "runtime.NumGoroutine") = false) (hb : fn.body.isSome = true) : Enters f := by
  intro args w
  obtain ⟨c, hc⟩ := Option.isSome_iff_exists.1 hb
  have h1 : fn.name ≠ "runtime.NumGoroutine" := by simpa using hname
  simp [callFunc, hf, h1, hc]
theorem len_size (s : ByteArray) : s.data.toList.length = s.size := Array.length_toList
theorem str_list (l : List UInt8) : (⟨l.toArray⟩ : ByteArray).data.toList = l := rfl
theorem str_size (l : List UInt8) : (⟨l.toArray⟩ : ByteArray).size = l.length := rfl
theorem row_form {w : World} {B : Nat} {e : TypeId} {z : Nat} {v : Value} {n : Nat} {xs : List Value} (h : w.ownsRow B e z v n xs) : ∃ o c, v = .slice o n c := by
  rcases h.2 with ⟨rfl, h0⟩ | ⟨g, cap, cur, rfl, _⟩
  · exact ⟨none, 0, by rw [h0]⟩
  · exact ⟨_, _, rfl⟩

def stAt (s : ByteArray) (k : Nat) (p : List UInt8) : Bool := p.isPrefixOf (s.data.toList.drop k)
theorem bne_at {c d : UInt8} {k : Int} (hd : (d.toNat : Int) = k) : (c != d) = ((c.toNat : Int) != k) := by rw [← hd, byte_bne]
theorem beq_at {c d : UInt8} {k : Int} (hd : (d.toNat : Int) = k) : (c == d) = ((c.toNat : Int) == k) := by rw [← hd, byte_beq]

set_option maxHeartbeats 400000 in
theorem small_any (c : UInt8) (w : World) : Calls Try.prog 37 #[.int .u8 c.toNat] w fun e w' => e = .returned (.bool (smallB c)) ∧ w' = w := by
  unfold smallB
  have hc : c.toNat < 256 := UInt8.toNat_lt c
  generalize c.toNat = n at *
  rcases (show n < 97 ∨ (97 ≤ n ∧ n ≤ 122) ∨ 122 < n from by omega) with h | h | h
  all_goals
    go_enter Try.func37, Try.ntmps37
    go_wp2
    go_ret
    refine ⟨ret_bool ?_, rfl⟩
    first
      | (simp; omega)
      | (rw [Bool.eq_iff_iff]; simp; omega)

set_option maxHeartbeats 400000 in
theorem dig_any (c : UInt8) (w : World) : Calls Try.prog 44 #[.int .u8 c.toNat] w fun e w' => e = .returned (.bool (digB c)) ∧ w' = w := by
  unfold digB
  have hc : c.toNat < 256 := UInt8.toNat_lt c
  generalize c.toNat = n at *
  rcases (show n < 48 ∨ (48 ≤ n ∧ n ≤ 57) ∨ 57 < n from by omega) with h | h | h
  all_goals
    go_enter Try.func44, Try.ntmps44
    go_wp2
    go_ret
    refine ⟨ret_bool ?_, rfl⟩
    first
      | (simp; omega)
      | (rw [Bool.eq_iff_iff]; simp; omega)

set_option maxHeartbeats 400000 in
theorem letter_any (c : UInt8) (w : World) : Calls Try.prog 36 #[.int .u8 c.toNat] w fun e w' => e = .returned (.bool (letterB c)) ∧ w' = w := by
  have hc : c.toNat < 256 := UInt8.toNat_lt c
  cases hs : smallB c
  · have hl : letterB c = (decide ((65 : Int) ≤ (c.toNat : Int)) && decide ((c.toNat : Int) ≤ 90)) := by
      unfold letterB bigB; rw [hs, Bool.eq_iff_iff]; simp; omega
    rw [hl]
    have hsm := hide (fun w => hs ▸ small_any c w)
    clear hs hl
    generalize c.toNat = n at *
    by_cases h : 65 ≤ n
    · go_enter Try.func36, Try.ntmps36
      go_wp2_with (go_at_call 37; refine (hsm.out _).mono ?_; rintro e w' ⟨rfl, rfl⟩)
      go_ret
      refine ⟨ret_bool ?_, rfl⟩
      rw [Bool.eq_iff_iff]; simp; omega
    · go_enter Try.func36, Try.ntmps36
      go_wp2_with (go_at_call 37; refine (hsm.out _).mono ?_; rintro e w' ⟨rfl, rfl⟩)
      go_ret
      refine ⟨ret_bool ?_, rfl⟩
      rw [Bool.eq_iff_iff]; simp; omega
  · have hl : letterB c = true := by unfold letterB; rw [hs]; rfl
    rw [hl]
    have hsm := hide (fun w => hs ▸ small_any c w)
    clear hs hl
    go_enter Try.func36, Try.ntmps36
    go_wp2_with (go_at_call 37; refine (hsm.out _).mono ?_; rintro e w' ⟨rfl, rfl⟩)
    go_ret
    exact ⟨rfl, rfl⟩


def RowAt (w : World) (b : Nat) (l : List UInt8) : Prop := ∀ j (_ : j < l.length), w.cell? ⟨b, j, none⟩ = some (.int .u8 (l[j].toNat : Int)) ∧ w.frozen? ⟨b, j, none⟩ = false

theorem bytes_new (s : ByteArray) (w : World) : ∃ W cap, (convert 9 36 (.string s)).run Try.prog w = .ok (.slice (some ⟨w.heap.size, 0, none⟩) s.size cap) W ∧ RowAt W w.heap.size s.data.toList ∧ Keeps [] w W := by
  refine ⟨_, _, run_bytes_of_string w 9 36 5 s Try.underlying9 Try.underlying36 Try.underlying5, ?_, ?_⟩
  · intro j hj
    have hj' : j < s.size := by simpa using hj
    have hh := heap_alloc_new w.drew (.cells (bytesRow s (grownCap w s.size 0 5)) 5 ((bytesRow s (grownCap w s.size 0 5)).size, (bytesRow s (grownCap w s.size 0 5)).size + 1))
    rw [show w.drew.heap.size = w.heap.size from rfl] at hh
    have hz : j < (bytesRow s (grownCap w s.size 0 5)).size := by
      simp only [bytesRow, Array.size_append, Array.size_map]
      exact Nat.lt_of_lt_of_le hj' (Nat.le_add_right _ _)
    constructor
    · unfold World.cell?
      rw [hh]
      have hd : j < s.data.size := hj'
      simp only [bytesRow, Option.isSome_none, Bool.false_eq_true, if_false]
      rw [Array.getElem?_append_left (by simpa using hd), Array.getElem?_map, Array.getElem?_eq_getElem hd]
      rfl
    · unfold World.frozen?
      rw [hh]
      simp
      omega
  · exact ((Keeps.refl [] w).drew).alloc _

theorem RowAt.set {w : World} {b : Nat} {l : List UInt8} (h : RowAt w b l) {i : Nat} (hi : i < l.length) (c : UInt8) : RowAt (w.setCell ⟨b, i, none⟩ (.int .u8 (c.toNat : Int))) b (l.set i c) := by
  intro j hj
  rw [List.length_set] at hj
  constructor
  · by_cases hij : i = j
    · subst hij
      rw [World.cell?_setCell_same _ _ _ (h i hi).1]
      simp
    · rw [World.cell?_setCell_other]
      · rw [(h j hj).1]
        simp [hij]
      · simp
  · rw [World.frozen?_setCell]
    exact (h j hj).2

/-- The first k bytes in small letters, the others as they are. -/
def lowTo (l : List UInt8) (k : Nat) : List UInt8 := lowerL (l.take k) ++ l.drop k

theorem lowTo_len (l : List UInt8) (k : Nat) : (lowTo l k).length = l.length := by simp [lowTo, lowerL]; omega
theorem lowTo_get (l : List UInt8) (k : Nat) (hk : k < l.length) : (lowTo l k)[k]'(by rw [lowTo_len]; exact hk) = l[k] := by
  simp only [lowTo, lowerL]
  rw [List.getElem_append_right (by simp; omega)]
  simp [Nat.min_eq_left (Nat.le_of_lt hk)]
theorem lowTo_succ (l : List UInt8) (k : Nat) (hk : k < l.length) : lowTo l (k + 1) = (lowTo l k).set k (lowB l[k]) := by
  unfold lowTo lowerL
  rw [List.take_succ_eq_append_getElem hk, List.map_append, List.set_append_right _ _ (by simp; omega)]
  simp [Nat.min_eq_left (Nat.le_of_lt hk)]
  rw [List.drop_eq_getElem_cons hk]
  rfl
theorem lowTo_all (l : List UInt8) : lowTo l l.length = lowerL l := by simp [lowTo]
theorem lowTo_zero (l : List UInt8) : lowTo l 0 = l := by simp [lowTo, lowerL]

theorem low_val (c : UInt8) (h : bigB c = true) : ((lowB c).toNat : Int) = (c.toNat : Int) - 65 + 97 := by
  have hb : 65 ≤ c.toNat ∧ c.toNat ≤ 90 := by simpa [bigB] using h
  unfold lowB
  rw [if_pos h, UInt8.toNat_add]
  have : (32 : UInt8).toNat = 32 := rfl
  rw [this]
  omega

theorem add_zero (b j : Nat) : (⟨b, 0, none⟩ : Addr).add j = ⟨b, j, none⟩ := by
  by_cases h : j = 0 <;> simp [Addr.add, h]

set_option maxHeartbeats 1000000 in
theorem lower_any (s : ByteArray) (w : World) (hs : s.size ≤ 3000) :
    Calls Try.prog 16 #[.string s] w fun e w' => e = .returned (.string ⟨(lowerL s.data.toList).toArray⟩) ∧ Keeps [] w w' := by
  obtain ⟨W, cap, hcv, hrow, hkW⟩ := bytes_new s w
  have hl := len_size s
  go_enter Try.func16, Try.ntmps16
  go_wp2_with fail
  go_loopw [10] (fun i wr => ∃ k : Nat, k ≤ s.size ∧ i = .int .i64 k ∧ RowAt wr w.heap.size (lowTo s.data.toList k) ∧ Keeps [] w wr) (fun i _ => s.size - (intOf i).toNat)
  case atStart => exact ⟨0, Nat.zero_le _, rfl, by rw [lowTo_zero]; exact hrow, hkW⟩
  case round =>
    obtain ⟨k, hk, rfl, hr, hkp⟩ := hrel
    clear hcv hrow hkW
    by_cases hlt : k < s.size
    · have hk' : k < s.data.toList.length := by omega
      have hc1 := (hr k (by rw [lowTo_len]; exact hk')).1
      have hf1 := (hr k (by rw [lowTo_len]; exact hk')).2
      rw [lowTo_get _ _ hk'] at hc1
      have hsucc := lowTo_succ s.data.toList k hk'
      have hset : (lowTo s.data.toList k).set k s.data.toList[k] = lowTo s.data.toList k := by
        have := @List.set_getElem_self _ (lowTo s.data.toList k) k (by rw [lowTo_len]; exact hk')
        rwa [lowTo_get _ _ hk'] at this
      generalize s.data.toList[k] = c at *
      cases hb : bigB c
      · have e1 : lowTo s.data.toList (k + 1) = lowTo s.data.toList k := by
          rw [hsucc]
          have : lowB c = c := by simp [lowB, hb]
          rw [this]
          exact hset
        have HR : Hid (RowAt wr w.heap.size (lowTo s.data.toList (k + 1))) := by rw [e1]; exact hr
        clear hsucc e1 hset
        cases hsm : smallB c
        · have hl0 : letterB c = false := by simp [letterB, hb, hsm]
          have hLt := hide (fun w => hl0 ▸ letter_any c w)
          clear hb hsm hl0
          go_wp2_with (go_at_call 36; refine (hLt.out _).mono ?_; rintro e w' ⟨rfl, rfl⟩)
          go_roundw
          case rel => exact ⟨k + 1, by omega, by go_num, HR.out, hkp⟩
          case measure => simp [intOf]; omega
        · have hl0 : letterB c = true := by simp [letterB, hsm]
          have hLt := hide (fun w => hl0 ▸ letter_any c w)
          have hSm := hide (fun w => hsm ▸ small_any c w)
          clear hb hsm hl0
          go_wp2_with (first | (go_at_call 36; refine (hLt.out _).mono ?_; rintro e w' ⟨rfl, rfl⟩) | (go_at_call 37; refine (hSm.out _).mono ?_; rintro e w' ⟨rfl, rfl⟩))
          go_roundw
          case rel => exact ⟨k + 1, by omega, by go_num, HR.out, hkp⟩
          case measure => simp [intOf]; omega
      · have hv := low_val c hb
        have hb' : 65 ≤ c.toNat ∧ c.toNat ≤ 90 := by simpa [bigB] using hb
        have hLt := hide (fun w => (show letterB c = true from by simp [letterB, hb]) ▸ letter_any c w)
        have hs0 : smallB c = false := by simp [smallB]; omega
        have hSm := hide (fun w => hs0 ▸ small_any c w)
        clear hs0
        have HR := hide (hr.set (by rw [lowTo_len]; exact hk') (lowB c))
        rw [← hsucc, hv] at HR
        clear hsucc hb hv
        go_wp2_with (first | (go_at_call 36; refine (hLt.out _).mono ?_; rintro e w' ⟨rfl, rfl⟩) | (go_at_call 37; refine (hSm.out _).mono ?_; rintro e w' ⟨rfl, rfl⟩))
        go_roundw
        case rel => exact ⟨k + 1, by omega, by go_num, HR.out, hkp.setCell (by simp) _⟩
        case measure => simp [intOf]; omega
    · have he : lowTo s.data.toList k = lowerL s.data.toList := by rw [show k = s.data.toList.length from by omega]; exact lowTo_all _
      rw [he] at hr
      have hlen : (lowerL s.data.toList).length = s.size := by simp [lowerL]
      have hcv2 := run_convert_bytes_back (P := Try.prog) wr 36 9 5 ⟨w.heap.size, 0, none⟩ cap (lowerL s.data.toList) Try.underlying36 Try.underlying5 Try.underlying9 (fun j hj => by
        rw [add_zero]; exact (hr j hj).1)
      rw [hlen] at hcv2
      clear he hr
      go_wp2_with fail
      go_ret
      exact ⟨rfl, hkp⟩

theorem Try.info5 : (Try.prog.info? 5).map (fun i => (i.zero, i.size, i.bytes)) = some (some (.int .u8 0), 1, 1) := by kernel_rfl
end Go.Proofs.Ytaeblkmkpfklkac

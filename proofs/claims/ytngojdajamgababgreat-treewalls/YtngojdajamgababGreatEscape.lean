/- Put, Take and Strict: what each answers, of whatever text, and that nothing that was there is changed. -/
import Derived.Test.YtngojdajamgababGreatTaken
namespace Go.Proofs.YtngojdajamgababGreat
open Go.RowKit

/-- A text and an errno, as a call answers them. -/
def two (a : List UInt8 × Int) : Ending := .returned (.tuple #[.string ⟨a.1.toArray⟩, .int .i64 a.2])

def putAns (l : List UInt8) : List UInt8 × Int := if 3000 < l.length then ([], 2) else (putL l, 0)
def takeAns (l : List UInt8) : List UInt8 × Int := if 3000 < l.length then ([], 2) else ((takeL l).1, 0)
def strictAns (l : List UInt8) : List UInt8 × Int := if 3000 < l.length then ([], 2) else if (takeL l).2 then ((takeL l).1, 0) else ([], 1)

theorem len_size (s : ByteArray) : s.data.toList.length = s.size := Array.length_toList

set_option maxHeartbeats 400000 in
theorem take_any (s : ByteArray) (w : World) (hm : s.size ≤ maxLen) :
    Calls Tryz.prog 96 #[.string s] w fun e w' => e = two (takeAns s.data.toList) ∧ Keeps [] w w' := by
  unfold maxLen at hm
  unfold takeAns
  rw [len_size]
  by_cases h : 3000 < s.size
  · rw [if_pos h]
    go_enter Tryz.func96, Tryz.ntmps96
    go_wp2_with fail
    go_ret2
    exact ⟨rfl, Keeps.refl _ _⟩
  · rw [if_neg h]
    generalize hT : takeL s.data.toList = T
    have HT := hide hT
    clear hT
    go_enter Tryz.func96, Tryz.ntmps96
    go_wp2_with fail
    refine (taken_any s _ (by omega)).mono ?_
    rintro e w1 ⟨rfl, hk⟩
    rw [HT.out]
    go_wp2_with fail
    go_ret2
    exact ⟨rfl, hk⟩


theorem byte_no {c d : UInt8} {k : Int} (hd : (d.toNat : Int) = k) (h : c ≠ d) : ((c.toNat : Int) == k) = false := by
  rw [← hd, byte_beq]; simpa using h

theorem keeps_row_new {w w' : World} {row : Option Nat} (h : Keeps row.toList w w') (hr : ∀ g, row = some g → w.heap.size ≤ g) : Keeps [] w w' := h.mono fun k hk hlt => by
  simp at hk
  have := hr k hk
  omega

set_option maxHeartbeats 1000000 in
theorem putByte_any (c : UInt8) (w : World) (B : Nat) (v : Value) (o : List UInt8) (ho : w.ownsRow B 5 1 v o.length (Lib.byteCells o)) (hn : o.length ≤ 100000) (hB : B ≤ w.heap.size) :
    Calls Tryz.prog 97 #[v, .int .u8 c.toNat] w fun e w' => ∃ v', e = .returned v' ∧ w'.ownsRow B 5 1 v' (o ++ putB c).length (Lib.byteCells (o ++ putB c)) ∧ Keeps v.ownBlock.toList w w' := by
  obtain ⟨i0, hi, hz0, hz1, hz2⟩ := info_parts Tryz.info5
  by_cases h1 : c = 38
  · subst h1
    go_enter Tryz.func97, Tryz.ntmps97
    go_wp2_with (at_builtin; refine Lib.wpList_append_own_string _ rfl _ _ 43 9 rfl B 5 i0 Tryz.underlying43 Tryz.underlying9 hi hz0 hz1 hz2 _ _ _ rfl ho ⟨#[38, 97, 109, 112, 59]⟩ rfl ?c1 ?c2 ?c3 ?_)
    case c1 => show o.length + 5 ≤ maxLen; unfold maxLen; omega
    case c2 => show o.length + 5 ≤ 140737488355328; omega
    case c3 => omega
    intro v' w1 ho1 hg1 _
    go_wp2_with fail
    go_ret
    exact ⟨v', rfl, own_str (t := ⟨#[38, 97, 109, 112, 59]⟩) ho1, keeps_row hg1⟩
  by_cases h2 : c = 60
  · subst h2
    go_enter Tryz.func97, Tryz.ntmps97
    go_wp2_with (at_builtin; refine Lib.wpList_append_own_string _ rfl _ _ 43 9 rfl B 5 i0 Tryz.underlying43 Tryz.underlying9 hi hz0 hz1 hz2 _ _ _ rfl ho ⟨#[38, 108, 116, 59]⟩ rfl ?c1 ?c2 ?c3 ?_)
    case c1 => show o.length + 4 ≤ maxLen; unfold maxLen; omega
    case c2 => show o.length + 4 ≤ 140737488355328; omega
    case c3 => omega
    intro v' w1 ho1 hg1 _
    go_wp2_with fail
    go_ret
    exact ⟨v', rfl, own_str (t := ⟨#[38, 108, 116, 59]⟩) ho1, keeps_row hg1⟩
  by_cases h3 : c = 62
  · subst h3
    go_enter Tryz.func97, Tryz.ntmps97
    go_wp2_with (at_builtin; refine Lib.wpList_append_own_string _ rfl _ _ 43 9 rfl B 5 i0 Tryz.underlying43 Tryz.underlying9 hi hz0 hz1 hz2 _ _ _ rfl ho ⟨#[38, 103, 116, 59]⟩ rfl ?c1 ?c2 ?c3 ?_)
    case c1 => show o.length + 4 ≤ maxLen; unfold maxLen; omega
    case c2 => show o.length + 4 ≤ 140737488355328; omega
    case c3 => omega
    intro v' w1 ho1 hg1 _
    go_wp2_with fail
    go_ret
    exact ⟨v', rfl, own_str (t := ⟨#[38, 103, 116, 59]⟩) ho1, keeps_row hg1⟩
  by_cases h4 : c = 34
  · subst h4
    go_enter Tryz.func97, Tryz.ntmps97
    go_wp2_with (at_builtin; refine Lib.wpList_append_own_string _ rfl _ _ 43 9 rfl B 5 i0 Tryz.underlying43 Tryz.underlying9 hi hz0 hz1 hz2 _ _ _ rfl ho ⟨#[38, 113, 117, 111, 116, 59]⟩ rfl ?c1 ?c2 ?c3 ?_)
    case c1 => show o.length + 6 ≤ maxLen; unfold maxLen; omega
    case c2 => show o.length + 6 ≤ 140737488355328; omega
    case c3 => omega
    intro v' w1 ho1 hg1 _
    go_wp2_with fail
    go_ret
    exact ⟨v', rfl, own_str (t := ⟨#[38, 113, 117, 111, 116, 59]⟩) ho1, keeps_row hg1⟩
  have hp : putB c = [c] := by simp [putB, h1, h2, h3, h4]
  have e1 : ((c.toNat : Int) == 38) = false := byte_no (d := 38) rfl h1
  have e2 : ((c.toNat : Int) == 60) = false := byte_no (d := 60) rfl h2
  have e3 : ((c.toNat : Int) == 62) = false := byte_no (d := 62) rfl h3
  have e4 : ((c.toNat : Int) == 34) = false := byte_no (d := 34) rfl h4
  rw [hp]
  clear hp h1 h2 h3 h4
  go_enter Tryz.func97, Tryz.ntmps97
  go_wp2_with (at_builtin; refine wpList_append_own _ rfl _ _ 43 rfl B 5 i0 (.int .u8 0) 1 1 Tryz.underlying43 hi hz0 hz1 hz2 rfl (by decide) _ _ _ rfl (ho.alloc _) ⟨w.heap.size, 0, none⟩ 1 1 [.int .u8 c.toNat] rfl rfl ?c1 ?c2 ?c3 ?c4 ?c5 ?_)
  case c1 =>
    intro j u hj
    match j, hj with
    | 0, hj => simp at hj; subst hj; simp [Addr.add]
  case c2 => intro u hu; simp at hu; subst hu; rfl
  case c3 => unfold maxLen; omega
  case c4 => omega
  case c5 => simp; omega
  intro v' w1 ho1 hg1 _
  go_wp2_with fail
  go_ret
  exact ⟨v', rfl, own_bytes (t := [c]) ho1, ((Keeps.refl _ w).alloc _).grown hg1 fun k e => .inl (by simp [e])⟩

/-- What is put of a text's first bytes. -/
def putTo (s : ByteArray) (k : Nat) : List UInt8 := putL (s.data.toList.take k)

theorem putTo_zero (s : ByteArray) : putTo s 0 = [] := by simp [putTo, putL]

theorem putTo_succ (s : ByteArray) (k : Nat) (hk : k < s.size) : putTo s (k + 1) = putTo s k ++ putB s[k] := by
  have hl : k < s.data.toList.length := by simpa using hk
  unfold putTo
  rw [List.take_succ_eq_append_getElem hl, putL_append]
  simp [putL]
  rfl

theorem putTo_len (s : ByteArray) (k : Nat) : (putTo s k).length ≤ 6 * k := by
  have h1 := putL_le (s.data.toList.take k)
  have h2 := List.length_take_le k s.data.toList
  unfold putTo
  omega

theorem putTo_all (s : ByteArray) : putTo s s.size = putL s.data.toList := by
  unfold putTo
  rw [List.take_of_length_le (by exact Nat.le_of_eq Array.length_toList)]

set_option maxRecDepth 100000 in
set_option maxHeartbeats 1000000 in
theorem put_any (s : ByteArray) (w : World) (hm : s.size ≤ maxLen) :
    Calls Tryz.prog 81 #[.string s] w fun e w' => e = two (putAns s.data.toList) ∧ Keeps [] w w' := by
  unfold maxLen at hm
  unfold putAns
  rw [len_size]
  by_cases h : 3000 < s.size
  · rw [if_pos h]
    go_enter Tryz.func81, Tryz.ntmps81
    go_wp2_with fail
    go_ret2
    exact ⟨rfl, Keeps.refl _ _⟩
  · rw [if_neg h, ← putTo_all]
    obtain ⟨i0, hi, hz0, hz1, hz2⟩ := info_parts Tryz.info5
    go_enter Tryz.func81, Tryz.ntmps81
    go_wp2_with (at_make; refine wpList_make_own _ rfl _ _ 43 rfl w.heap.size 5 i0 (.int .u8 0) 1 Tryz.underlying43 hi hz0 hz1 .i64 .i64 _ s.size rfl rfl rfl (by rw [hz2]; omega) (by unfold maxLen; omega) (Nat.le_refl _) ?_; intro w2 ho2 hg2)
    have hk2 : Keeps [] w w2 := (Keeps.refl [] w).grown hg2 (by simp)
    go_loopw [4, 5] (fun v i wr => ∃ k : Nat, k ≤ s.size ∧ i = .int .i64 k ∧ wr.ownsRow w.heap.size 5 1 v (putTo s k).length (Lib.byteCells (putTo s k)) ∧ Keeps [] w wr) (fun _ i _ => s.size - (intOf i).toNat)
    case atStart => exact ⟨0, Nat.zero_le _, rfl, by rw [putTo_zero]; exact ho2, hk2⟩
    case round =>
      obtain ⟨k, hk, rfl, ho, hkp⟩ := hrel
      clear ho2 hk2 hg2
      have hlen := putTo_len s k
      by_cases hlt : k < s.size
      · have HS := hide (putTo_succ s k hlt)
        go_wp2_with fail
        refine (putByte_any s[k] _ w.heap.size _ _ (by exact ho) (by omega) (by exact hkp.size)).mono ?_
        rintro e w3 ⟨v3, rfl, ho3, hk3⟩
        rw [← HS.out] at ho3
        have hk3' : Keeps [] w w3 := keeps_row_new (hkp.up.trans hk3) fun g hg => (ho.lt g hg).1
        go_wp2_with fail
        go_roundw
        case rel => exact ⟨k + 1, by omega, by go_num, ho3, hk3'⟩
        case measure => simp [intOf]; omega
      · have hcv := own_string ho 0
        rw [show wr.drewN 0 = wr from rfl] at hcv
        have he : k = s.size := by omega
        subst he
        go_wp2_with fail
        go_ret2
        exact ⟨rfl, hkp⟩
end Go.Proofs.YtngojdajamgababGreat

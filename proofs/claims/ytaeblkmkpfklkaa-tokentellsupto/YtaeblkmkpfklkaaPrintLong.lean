/- printText, of a text that may be longer than one that is read. -/
import Derived.Test.YtaeblkmkpfklkaaPrintText
import Derived.Deep.LoopGhost
namespace Go.Proofs.Ytaeblkmkpfklkaa
open Go.RowKit Go.Maps

theorem putL_app (a b : List UInt8) : putL (a ++ b) = putL a ++ putL b := by simp [putL]

theorem putL_take (t : List UInt8) (k m : Nat) : putL (t.take (k + m)) = putL (t.take k) ++ putL ((t.drop k).take m) := by
  rw [List.take_add, putL_app]

set_option maxRecDepth 4000 in
set_option maxHeartbeats 2000000 in
theorem printText_all (B b : Nat) (l t : List UInt8) (w : World) (h : IsBld B b l w) (hBw : B ≤ w.heap.size) (ht : t.length ≤ 2000000) (hl : l.length ≤ 100000000) :
    Calls Try.prog 33 #[.pointer (some ⟨b, 0, none⟩), .string ⟨t.toArray⟩] w fun e w' => e = .returned (.tuple #[]) ∧ IsBld B b (l ++ putL t) w' ∧ KeepsB B b w w' := by
  go_enter Try.func33, Try.ntmps33
  go_wp2_with fail
  go_loopg [1] (t.length + 1) (fun g v wr => ∃ (k : Nat) (X : ByteArray), k ≤ t.length ∧ t.length + 1 ≤ g + k ∧ v = .string X ∧ Hid (X.data.toList = t.drop k) ∧ X.size + k = t.length ∧ IsBld B b (l ++ putL (t.take k)) wr ∧ KeepsB B b w wr)
  case atStart => exact ⟨0, ⟨t.toArray⟩, Nat.zero_le _, by omega, rfl, rfl, rfl, by simpa [putL] using h, KeepsB.refl _ _ _⟩
  case round =>
    obtain ⟨k, X, hk, hg, rfl, hX, hXs, hbk, hkw⟩ := hrel
    by_cases hz : X.size = 0
    · have hkt : k = t.length := by omega
      have htk : t.take k = t := List.take_of_length_le (by omega)
      rw [htk] at hbk
      clear hkt htk
      have hgt : decide ((0 : Int) < (X.size : Int)) = false := by rw [hz]; rfl
      go_wp2_with fail
      go_end0
      exact ⟨rfl, hbk, hkw⟩
    · obtain ⟨f, rfl⟩ : ∃ f, gk = f + 1 := ⟨gk - 1, by omega⟩
      obtain ⟨m, hm⟩ : ∃ m, m = min X.size 3000 := ⟨_, rfl⟩
      have hm1 : 1 ≤ m := by omega
      have hm2 : m ≤ X.size := by omega
      have hm3 : m ≤ 3000 := by omega
      have hmin : min (X.size : Int) 3000 = (m : Int) := by omega
      have hgt : decide ((0 : Int) < (X.size : Int)) = true := by simp; omega
      have hpos : 0 < X.size := by omega
      clear hm
      have hPd : (X.extract 0 m).data.toList = (t.drop k).take m := by
        rw [Lib.extract_data, hX.out]
        simp
      have hPl : ((t.drop k).take m).length = m := by
        have := len_size X
        rw [hX.out] at this
        rw [List.length_take, this]
        omega
      have hRd : (X.extract m X.size).data.toList = t.drop (k + m) := by
        rw [Lib.extract_to_end, hX.out, List.drop_drop]
      have hRs : (X.extract m X.size).size + (k + m) = t.length := by simp; omega
      have hPs : (X.extract 0 m).size = m := by simp; omega
      have hput := hide (fun w => put_any (X.extract 0 m) w (by unfold maxLen; omega))
      have hans : putAns (X.extract 0 m).data.toList = (putL ((t.drop k).take m), 0) := by
        unfold putAns
        rw [hPd, if_neg (by omega)]
      rw [hans] at hput
      have hpl1 := putL_le (t.take k)
      have hpl2 := putL_le ((t.drop k).take m)
      have htl : (t.take k).length ≤ 2000000 := by rw [List.length_take]; omega
      have hwr := hide (fun (w : World) h hB => write_all B b (l ++ putL (t.take k)) (putL ((t.drop k).take m)) w h (by rw [List.length_append]; omega) hB)
      have HT := hide (putL_take t k m)
      have HRd := hide hRd
      have hBr := Nat.le_trans hBw hkw.size
      clear hPd hRd hPl hans hpl1 hpl2 htl
      generalize putL ((t.drop k).take m) = T at *
      generalize putL (t.take k) = Y at *
      go_wp2_with fail
      refine (hput.out _).mono ?_
      rintro e w2 ⟨rfl, hk2⟩
      unfold two
      go_wp2_with fail
      refine (hwr.out _ (hbk.keeps hk2) (Nat.le_trans hBr hk2.size)).mono ?_
      rintro e w3 ⟨rfl, hb3, hk3⟩
      have hb3' : IsBld B b (l ++ putL (t.take (k + m))) w3 := by rw [HT.out, ← List.append_assoc]; exact hb3
      have hkw3 : KeepsB B b w w3 := (hkw.trans (KeepsB.of hk2)).trans hk3
      go_wp2_with fail
      go_roundg f
      case measure => omega
      case rel => exact ⟨k + m, X.extract m X.size, by omega, by omega, rfl, HRd, hRs, hb3', hkw3⟩
end Go.Proofs.Ytaeblkmkpfklkaa

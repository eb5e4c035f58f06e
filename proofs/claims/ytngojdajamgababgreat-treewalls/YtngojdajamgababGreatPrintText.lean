/- printText, of a text that is no longer than one that is read. -/
import Derived.Test.YtngojdajamgababGreatBuilder2
namespace Go.Proofs.YtngojdajamgababGreat
open Go.RowKit Go.Maps

theorem IsBld.keeps {B b : Nat} {l : List UInt8} {w w' : World} (h : IsBld B b l w) (hk : Keeps [] w w') : IsBld B b l w' := by
  rcases h with ⟨hB, v, hb, ho, hne⟩ | ⟨hB, v, hb, ho, hne⟩
  · exact .inl ⟨hB, v, by rw [hk.block b (lt_of_block hb) List.not_mem_nil]; exact hb, hk.owns ho (fun _ _ => List.not_mem_nil), hne⟩
  · exact .inr ⟨hB, v, by rw [hk.block b (lt_of_block hb) List.not_mem_nil]; exact hb, hk.owns ho (fun _ _ => List.not_mem_nil), hne⟩

set_option maxRecDepth 4000 in
set_option maxHeartbeats 2000000 in
theorem printText_any (B b : Nat) (l t : List UInt8) (w : World) (h : IsBld B b l w) (hBw : B ≤ w.heap.size) (ht : t.length ≤ 3000) (hl : l.length ≤ 100000000) :
    Calls Tryz.prog 56 #[.pointer (some ⟨b, 0, none⟩), .string ⟨t.toArray⟩] w fun e w' => e = .returned (.tuple #[]) ∧ IsBld B b (l ++ putL t) w' ∧ KeepsB B b w w' := by
  by_cases hne : t = []
  · subst hne
    have e0 : l ++ putL [] = l := by simp [putL]
    rw [e0]
    go_enter Tryz.func56, Tryz.ntmps56
    go_wp2_with fail
    go_loopg [1] 1 (fun g v wr => v = .string ⟨#[]⟩ ∧ wr = w)
    case atStart => exact ⟨rfl, rfl⟩
    case round =>
      obtain ⟨rfl, rfl⟩ := hrel
      go_wp2_with fail
      go_end0
      exact ⟨rfl, h, KeepsB.refl _ _ _⟩
  · obtain ⟨X, hX⟩ : ∃ X : ByteArray, X = ⟨t.toArray⟩ := ⟨_, rfl⟩
    have hsz : X.size = t.length := by rw [hX]; rfl
    have hpos : 0 < X.size := by rw [hsz]; exact List.length_pos_iff.2 hne
    have hput := hide (fun w => put_any X w (by unfold maxLen; omega))
    have hans : putAns X.data.toList = (putL t, 0) := by
      unfold putAns
      rw [hX, str_list, if_neg (by omega)]
    rw [hans] at hput
    have hpl := putL_le t
    have hwr := hide (fun (w : World) h hB => write_all B b l (putL t) w h (by omega) hB)
    generalize putL t = T at *
    rw [← hX]
    have h3 : X.size ≤ 3000 := by omega
    have hmin : min (X.size : Int) 3000 = X.size := by omega
    have hx0 : X.extract 0 X.size = X := by simp
    have hx1 : X.extract X.size X.size = ⟨#[]⟩ := by
      apply WideShapes.bytes_inj
      rw [Lib.extract_data]
      simp
    have hgt : decide ((0 : Int) < (X.size : Int)) = true := by simp; omega
    clear hX hans hsz hne ht
    go_enter Tryz.func56, Tryz.ntmps56
    go_wp2_with fail
    go_loopg [1] 2 (fun g v wr => (v = .string X ∧ wr = w ∧ g = 2) ∨ (v = .string ⟨#[]⟩ ∧ IsBld B b (l ++ T) wr ∧ KeepsB B b w wr))
    case atStart => exact .inl ⟨rfl, rfl, rfl⟩
    case round =>
      rcases hrel with ⟨rfl, rfl, rfl⟩ | ⟨rfl, h1, h2⟩
      · go_wp2_with fail
        refine (hput.out _).mono ?_
        rintro e w2 ⟨rfl, hk2⟩
        unfold two
        go_wp2_with fail
        refine (hwr.out _ (h.keeps hk2) (Nat.le_trans hBw hk2.size)).mono ?_
        rintro e w3 ⟨rfl, h3', hb3⟩
        have hb : KeepsB B b wr w3 := (KeepsB.of hk2).trans hb3
        go_wp2_with fail
        go_roundg 1
        case measure => omega
        case rel => exact .inr ⟨rfl, h3', hb⟩
      · go_wp2_with fail
        go_end0
        exact ⟨rfl, h1, h2⟩
end Go.Proofs.YtngojdajamgababGreat

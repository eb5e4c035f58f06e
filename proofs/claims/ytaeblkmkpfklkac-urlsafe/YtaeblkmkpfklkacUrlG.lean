/- A link in the light of a base: merged. -/
import Derived.Test.YtaeblkmkpfklkacUrlF
namespace Go.Proofs.Ytaeblkmkpfklkac
open Go.RowKit

theorem last_at (s : ByteArray) : LastAt s.data.toList (Lib.lastIndexByte s 47) := by
  have hget : ∀ j (hj : j < s.size), s.data[j]! = s.data.toList[j]'(by rw [len_size]; exact hj) := fun j hj => by
    rw [getElem!_pos s.data j (by simpa using hj)]; rfl
  have h47 : ∀ c : UInt8, ((c.toNat : Int) = 47) ↔ c = 47 := all_bytes (by decide +kernel)
  rcases Lib.lastIndexByte_spec s 47 with ⟨e, hn⟩ | ⟨i, hi, e, hc, hn⟩
  · refine .inl ⟨e, fun d hd => ?_⟩
    obtain ⟨j, hj, rfl⟩ := List.getElem_of_mem hd
    have hj' : j < s.size := by rw [← len_size]; exact hj
    have := hn j hj'
    rw [hget j hj'] at this
    exact fun h => this ((h47 _).2 h)
  · refine .inr ⟨i, e, by rw [len_size]; exact hi, ?_, fun j hj hij => ?_⟩
    · rw [hget i hi] at hc
      exact (h47 _).1 hc
    · have hj' : j < s.size := by rw [← len_size]; exact hj
      have := hn j hij hj'
      rw [hget j hj'] at this
      exact fun h => this ((h47 _).2 h)

set_option maxRecDepth 4000 in
set_option maxHeartbeats 2000000 in
theorem merged_any (b : UrlT) (X : ByteArray) (w : World) (hb : b.path.length ≤ 3000) (hX : X.size ≤ 3000) :
    Calls Try.prog 35 #[urlV b, .string X] w fun e w' => e = .returned (.string ⟨(mergedL b X.data.toList).toArray⟩) ∧ Keeps [] w w' := by
  have hka : Keeps [] w _ := (Keeps.refl [] w).alloc (.cells #[.string ⟨b.scheme.toArray⟩, .string ⟨b.authority.toArray⟩, .string ⟨b.path.toArray⟩, .string ⟨b.query.toArray⟩, .string ⟨b.fragment.toArray⟩, .bool b.hs, .bool b.ha, .bool b.hq, .bool b.hf] 23)
  have hXe : (⟨X.data.toList.toArray⟩ : ByteArray) = X := by apply WideShapes.bytes_inj; rfl
  unfold urlV urlCells mergedL
  by_cases h1 : X.data.toList = []
  · rw [if_pos h1]
    have hem : X.toList.isEmpty = true := by rw [empty_iff]; simpa using h1
    clear h1 hXe
    go_enter Try.func35, Try.ntmps35
    go_wp2_with fail
    go_ret
    exact ⟨by simp, hka⟩
  rw [if_neg h1]
  have hem : X.toList.isEmpty = false := by rw [empty_iff]; simpa using h1
  have hp0 : 0 < X.size := by rw [← len_size]; exact List.length_pos_iff.2 h1
  have hh : X.data.toList.head? = some X[0] := by
    rw [List.head?_eq_getElem?, List.getElem?_eq_getElem (by rw [len_size]; exact hp0)]
    rfl
  rw [hh]
  by_cases h2 : X[0] = 47
  · rw [if_pos (by rw [h2])]
    have hq : ((X[0].toNat : Int) == 47) = true := by rw [h2]; rfl
    rw [hXe]
    clear h1 h2 hh hXe
    go_enter Try.func35, Try.ntmps35
    go_wp2_with fail
    go_ret
    exact ⟨by simp, hka⟩
  rw [if_neg (by simpa using h2)]
  have hq : ((X[0].toNat : Int) == 47) = false := by
    rw [← (beq_at rfl : (X[0] == 47) = ((X[0].toNat : Int) == 47))]; simpa using h2
  by_cases h3 : b.ha = true ∧ b.path = []
  · rw [if_pos h3]
    obtain ⟨h3a, h3b⟩ := h3
    rw [h3a, h3b]
    clear h1 h2 hh h3a h3b
    have hcat : (⟨#[47]⟩ ++ X : ByteArray) = ⟨(47 :: X.data.toList).toArray⟩ := by apply WideShapes.bytes_inj; simp
    have HC := hide hcat
    clear hcat
    go_enter Try.func35, Try.ntmps35
    go_wp2_with fail
    go_ret
    exact ⟨by rw [← HC.out]; simp, (Keeps.refl [] w).alloc _⟩
  · rw [if_neg h3]
    obtain ⟨e1, e2, e3⟩ := (last_at ⟨b.path.toArray⟩).up
    rw [str_list] at e1 e3
    have hlb := hide (fun w => Try.strings_LastIndexByte ⟨b.path.toArray⟩ 47 (by rw [str_size]; omega) w)
    obtain ⟨m, hm⟩ : ∃ m : Nat, Lib.lastIndexByte ⟨b.path.toArray⟩ 47 + 1 = m := ⟨(Lib.lastIndexByte ⟨b.path.toArray⟩ 47 + 1).toNat, by omega⟩
    rw [hm] at e1
    simp only [Int.toNat_natCast] at e1
    generalize Lib.lastIndexByte ⟨b.path.toArray⟩ 47 = i at *
    have hml : m ≤ b.path.length := by omega
    have hcat : ((⟨b.path.toArray⟩ : ByteArray).extract 0 m ++ X : ByteArray) = ⟨(upSl b.path ++ X.data.toList).toArray⟩ := by
      apply WideShapes.bytes_inj
      show ((⟨b.path.toArray⟩ : ByteArray).extract 0 m ++ X).data.toList = _
      rw [e1, ByteArray.data_append, Array.toList_append, Lib.extract_data]
      simp
    have HC := hide hcat
    have hsz : ((⟨b.path.toArray⟩ : ByteArray)).size = b.path.length := rfl
    have ha3 : b.ha = false ∨ (b.ha = true ∧ (b.path.isEmpty = false)) := by
      cases hx : b.ha
      · exact .inl rfl
      · right
        refine ⟨rfl, ?_⟩
        simpa using fun hpp => h3 ⟨hx, hpp⟩
    clear hcat e1 h1 h2 h3 hh hXe
    rcases ha3 with ha3 | ⟨ha3, hpe⟩
    · rw [ha3]
      go_enter Try.func35, Try.ntmps35
      go_wp2_with fail
      go_quiet ((go_at_call 54; exact Calls.quiet_of_same (hlb.out _)))
      go_wp2_with fail
      go_ret
      exact ⟨by rw [← HC.out]; simp, ((Keeps.refl [] w).alloc _).drewN _⟩
    · rw [ha3]
      go_enter Try.func35, Try.ntmps35
      go_wp2_with fail
      go_quiet ((go_at_call 54; exact Calls.quiet_of_same (hlb.out _)))
      go_wp2_with fail
      go_ret
      exact ⟨by rw [← HC.out]; simp, ((Keeps.refl [] w).alloc _).drewN _⟩
end Go.Proofs.Ytaeblkmkpfklkac

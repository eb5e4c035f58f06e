/- Split. -/
import Derived.Test.YtaeblkmkpfklkacUrlB
namespace Go.Proofs.Ytaeblkmkpfklkac
open Go.RowKit

theorem end6 {tmps : Array Value} {W w : World} {r : Nat} {u A : UrlT} {e : Int} (hp : tmps.getD 2 undef = .pointer (some ⟨r, 0, none⟩)) (he : tmps.getD 3 undef = .int .i64 e) (hU : IsUrl W r u) (hA : A = u) (hk : Keeps [] w W) :
    bodyPost Try.prog Try.f6 (fun x w' => x = .returned (.tuple #[urlV A, .int .i64 e]) ∧ Keeps [] w w') Exit.ret { tmps := tmps, defers := [] } W := by
  subst hA
  refine ⟨rfl, .tuple #[urlV A, .int .i64 e], ?_, rfl, hk⟩
  have hp' : tmps[2]?.getD undef = .pointer (some ⟨r, 0, none⟩) := by simpa using hp
  have he' : tmps[3]?.getD undef = .int .i64 e := by simpa using he
  rw [results_cell_tmp (p := 2) (u := 3) (ty := 23) rfl]
  simp [asAddr, hp', he', load23 hU, Result.andThen]

theorem split_long (s : ByteArray) (w : World) (hm : s.size ≤ maxLen) (h : 3000 < s.size) :
    Calls Try.prog 6 #[.string s] w fun e w' => e = .returned (.tuple #[urlV noUrl, .int .i64 2]) ∧ Keeps [] w w' := by
  unfold maxLen at hm
  have hka : Keeps [] w (w.alloc (.cells #[.string ⟨#[]⟩, .string ⟨#[]⟩, .string ⟨#[]⟩, .string ⟨#[]⟩, .string ⟨#[]⟩, .bool false, .bool false, .bool false, .bool false] 23)) := (Keeps.refl [] w).alloc _
  have hR : IsUrl (w.alloc (.cells #[.string ⟨#[]⟩, .string ⟨#[]⟩, .string ⟨#[]⟩, .string ⟨#[]⟩, .string ⟨#[]⟩, .bool false, .bool false, .bool false, .bool false] 23)) w.heap.size noUrl := heap_alloc_new _ _
  have hgt : decide ((3000 : Int) < (s.size : Int)) = true := by simp; omega
  have HR := hide hR
  go_enter Try.func6, Try.ntmps6
  go_wp2_with fail
  exact end6 rfl rfl HR.out rfl hka

set_option maxHeartbeats 1000000 in
theorem split_short (s : ByteArray) (w : World) (h : ¬ 3000 < s.size) (hM : HasMax w) :
    Calls Try.prog 6 #[.string s] w fun e w' => e = .returned (.tuple #[urlV (splitL s.data.toList), .int .i64 0]) ∧ Keeps [] w w' := by
  have hka : Keeps [] w (w.alloc (.cells #[.string ⟨#[]⟩, .string ⟨#[]⟩, .string ⟨#[]⟩, .string ⟨#[]⟩, .string ⟨#[]⟩, .bool false, .bool false, .bool false, .bool false] 23)) := (Keeps.refl [] w).alloc _
  have hR : IsUrl (w.alloc (.cells #[.string ⟨#[]⟩, .string ⟨#[]⟩, .string ⟨#[]⟩, .string ⟨#[]⟩, .string ⟨#[]⟩, .bool false, .bool false, .bool false, .bool false] 23)) w.heap.size noUrl := heap_alloc_new _ _
  have hM' := hM.keeps hka (by simp)
  have hgt : decide ((3000 : Int) < (s.size : Int)) = false := by simp; omega
  have hsp := hide (split_any s _ (by omega) hM')
  generalize splitL s.data.toList = A at *
  go_enter Try.func6, Try.ntmps6
  go_wp2_with fail
  refine hsp.out.mono ?_
  rintro e w1 ⟨rfl, hk1⟩
  have hR1 := hR.keeps hk1 (by simp)
  have hk2 := hka.trans hk1
  unfold urlV urlCells
  have r0 : w1.cell? ⟨w.heap.size, 0, none⟩ = some (.string ⟨([] : List UInt8).toArray⟩) := hR1.cell 0
  have r1 : w1.cell? ⟨w.heap.size, 1, none⟩ = some (.string ⟨([] : List UInt8).toArray⟩) := hR1.cell 1
  have r2 : w1.cell? ⟨w.heap.size, 2, none⟩ = some (.string ⟨([] : List UInt8).toArray⟩) := hR1.cell 2
  have r3 : w1.cell? ⟨w.heap.size, 3, none⟩ = some (.string ⟨([] : List UInt8).toArray⟩) := hR1.cell 3
  have r4 : w1.cell? ⟨w.heap.size, 4, none⟩ = some (.string ⟨([] : List UInt8).toArray⟩) := hR1.cell 4
  have r5 : w1.cell? ⟨w.heap.size, 5, none⟩ = some (.bool false) := hR1.cell 5
  have r6 : w1.cell? ⟨w.heap.size, 6, none⟩ = some (.bool false) := hR1.cell 6
  have r7 : w1.cell? ⟨w.heap.size, 7, none⟩ = some (.bool false) := hR1.cell 7
  have r8 : w1.cell? ⟨w.heap.size, 8, none⟩ = some (.bool false) := hR1.cell 8
  have z0 := hR1.free 0
  have z1 := hR1.free 1
  have z2 := hR1.free 2
  have z3 := hR1.free 3
  have z4 := hR1.free 4
  have z5 := hR1.free 5
  have z6 := hR1.free 6
  have z7 := hR1.free 7
  have z8 := hR1.free 8
  go_wp2_with fail
  exact end6 rfl rfl (((((((((hR1.set0 A.scheme).set1 A.authority).set2 A.path).set3 A.query).set4 A.fragment).set5 A.hs).set6 A.ha).set7 A.hq).set8 A.hf) rfl (keeps9 hk2 (Nat.le_refl _) _ _ _ _ _ _ _ _ _)
end Go.Proofs.Ytaeblkmkpfklkac

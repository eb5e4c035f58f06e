/- urlBegun: what must be in any case. -/
import Derived.Test.YtaeblkmkpfklkacUrlJ
namespace Go.Proofs.Ytaeblkmkpfklkac
open Go.RowKit

theorem sp0 : splitL [104, 116, 116, 112, 58, 47, 47, 97, 47, 98, 47, 99, 47, 100, 59, 112, 63, 113, 35, 102] = ⟨[104, 116, 116, 112], [97], [47, 98, 47, 99, 47, 100, 59, 112], [113], [102], true, true, true, true⟩ := by kernel_rfl
theorem dt0 : dotsL [47, 97, 47, 98, 47, 99, 47, 46, 47, 46, 46, 47, 46, 46, 47, 103] = [47, 97, 47, 103] := by kernel_rfl
theorem rs0 : resAns [104, 116, 116, 112, 58, 47, 47, 97, 47, 98, 47, 99, 47, 100, 59, 112, 63, 113] [46, 46, 47, 103, 63, 121, 35, 115] = some [104, 116, 116, 112, 58, 47, 47, 97, 47, 98, 47, 103, 63, 121, 35, 115] := by kernel_rfl
theorem sf0 : safeL [74, 97, 118, 97, 83, 99, 114, 105, 112, 116, 58, 120] = false := by kernel_rfl
theorem sf1 : safeL [32, 104, 116, 10, 116, 112, 115, 58, 47, 47, 120] = true := by kernel_rfl
theorem jn0 : joinsL ⟨[104, 116, 116, 112], [97], [47, 98, 47, 99, 47, 100, 59, 112], [113], [102], true, true, true, true⟩ = some [104, 116, 116, 112, 58, 47, 47, 97, 47, 98, 47, 99, 47, 100, 59, 112, 63, 113, 35, 102] := by kernel_rfl

theorem begun1 (w : World) (hM : HasMax w) : Calls Try.prog 6 #[.string ⟨#[104, 116, 116, 112, 58, 47, 47, 97, 47, 98, 47, 99, 47, 100, 59, 112, 63, 113, 35, 102]⟩] w fun e w' => e = .returned (.tuple #[.agg #[.string ⟨#[104, 116, 116, 112]⟩, .string ⟨#[97]⟩, .string ⟨#[47, 98, 47, 99, 47, 100, 59, 112]⟩, .string ⟨#[113]⟩, .string ⟨#[102]⟩, .bool true, .bool true, .bool true, .bool true], .int .i64 0]) ∧ Keeps [] w w' :=
  (split_short ⟨#[104, 116, 116, 112, 58, 47, 47, 97, 47, 98, 47, 99, 47, 100, 59, 112, 63, 113, 35, 102]⟩ w (by decide) hM).mono fun e w' ⟨he, hk⟩ => ⟨he.trans (by rw [show (⟨#[104, 116, 116, 112, 58, 47, 47, 97, 47, 98, 47, 99, 47, 100, 59, 112, 63, 113, 35, 102]⟩ : ByteArray).data.toList = [104, 116, 116, 112, 58, 47, 47, 97, 47, 98, 47, 99, 47, 100, 59, 112, 63, 113, 35, 102] from rfl, sp0]; rfl), hk⟩
theorem begun2 (w : World) (hM : HasMax w) : Calls Try.prog 8 #[.agg #[.string ⟨#[104, 116, 116, 112]⟩, .string ⟨#[97]⟩, .string ⟨#[47, 98, 47, 99, 47, 100, 59, 112]⟩, .string ⟨#[113]⟩, .string ⟨#[102]⟩, .bool true, .bool true, .bool true, .bool true]] w fun e w' => e = .returned (.tuple #[.string ⟨#[104, 116, 116, 112, 58, 47, 47, 97, 47, 98, 47, 99, 47, 100, 59, 112, 63, 113, 35, 102]⟩, .int .i64 0]) ∧ Keeps [] w w' :=
  (join_any ⟨[104, 116, 116, 112], [97], [47, 98, 47, 99, 47, 100, 59, 112], [113], [102], true, true, true, true⟩ w ⟨by decide, by decide, by decide, by decide, by decide⟩ hM).mono fun e w' ⟨he, hk⟩ => ⟨he.trans (by rw [jn0]; rfl), hk⟩
theorem begun3 (w : World) : Calls Try.prog 9 #[.string ⟨#[47, 97, 47, 98, 47, 99, 47, 46, 47, 46, 46, 47, 46, 46, 47, 103]⟩] w fun e w' => e = .returned (.tuple #[.string ⟨#[47, 97, 47, 103]⟩, .int .i64 0]) ∧ Keeps [] w w' :=
  (dots_any ⟨#[47, 97, 47, 98, 47, 99, 47, 46, 47, 46, 46, 47, 46, 46, 47, 103]⟩ w (by decide)).mono fun e w' ⟨he, hk⟩ => ⟨he.trans (by rw [show (⟨#[47, 97, 47, 98, 47, 99, 47, 46, 47, 46, 46, 47, 46, 46, 47, 103]⟩ : ByteArray).data.toList = [47, 97, 47, 98, 47, 99, 47, 46, 47, 46, 46, 47, 46, 46, 47, 103] from rfl, dt0]), hk⟩
theorem begun4 (w : World) (hM : HasMax w) : Calls Try.prog 10 #[.string ⟨#[104, 116, 116, 112, 58, 47, 47, 97, 47, 98, 47, 99, 47, 100, 59, 112, 63, 113]⟩, .string ⟨#[46, 46, 47, 103, 63, 121, 35, 115]⟩] w fun e w' => e = .returned (.tuple #[.string ⟨#[104, 116, 116, 112, 58, 47, 47, 97, 47, 98, 47, 103, 63, 121, 35, 115]⟩, .int .i64 0]) ∧ Keeps [] w w' :=
  (resolve_any ⟨#[104, 116, 116, 112, 58, 47, 47, 97, 47, 98, 47, 99, 47, 100, 59, 112, 63, 113]⟩ ⟨#[46, 46, 47, 103, 63, 121, 35, 115]⟩ w (by decide) (by decide) hM).mono fun e w' ⟨he, hk⟩ => ⟨he.trans (by rw [show (⟨#[104, 116, 116, 112, 58, 47, 47, 97, 47, 98, 47, 99, 47, 100, 59, 112, 63, 113]⟩ : ByteArray).data.toList = [104, 116, 116, 112, 58, 47, 47, 97, 47, 98, 47, 99, 47, 100, 59, 112, 63, 113] from rfl, show (⟨#[46, 46, 47, 103, 63, 121, 35, 115]⟩ : ByteArray).data.toList = [46, 46, 47, 103, 63, 121, 35, 115] from rfl, rs0]; rfl), hk⟩
theorem begun5 (w : World) (hM : HasMax w) : Calls Try.prog 11 #[.string ⟨#[74, 97, 118, 97, 83, 99, 114, 105, 112, 116, 58, 120]⟩] w fun e w' => e = .returned (.tuple #[.bool false, .int .i64 0]) ∧ Keeps [] w w' :=
  (safe_any ⟨#[74, 97, 118, 97, 83, 99, 114, 105, 112, 116, 58, 120]⟩ w (by decide) hM).mono fun e w' ⟨he, hk⟩ => ⟨he.trans (by rw [show (⟨#[74, 97, 118, 97, 83, 99, 114, 105, 112, 116, 58, 120]⟩ : ByteArray).data.toList = [74, 97, 118, 97, 83, 99, 114, 105, 112, 116, 58, 120] from rfl, sf0]), hk⟩
theorem begun6 (w : World) (hM : HasMax w) : Calls Try.prog 11 #[.string ⟨#[32, 104, 116, 10, 116, 112, 115, 58, 47, 47, 120]⟩] w fun e w' => e = .returned (.tuple #[.bool true, .int .i64 0]) ∧ Keeps [] w w' :=
  (safe_any ⟨#[32, 104, 116, 10, 116, 112, 115, 58, 47, 47, 120]⟩ w (by decide) hM).mono fun e w' ⟨he, hk⟩ => ⟨he.trans (by rw [show (⟨#[32, 104, 116, 10, 116, 112, 115, 58, 47, 47, 120]⟩ : ByteArray).data.toList = [32, 104, 116, 10, 116, 112, 115, 58, 47, 47, 120] from rfl, sf1]), hk⟩

set_option maxRecDepth 8000 in
set_option maxHeartbeats 8000000 in
theorem urlBegun_any (w : World) (hM : HasMax w) : Calls Try.prog 7 #[] w fun e w' => e = .returned (.bool true) ∧ Keeps [] w w' := by
  go_enter Try.func7, Try.ntmps7
  go_wp2_with fail
  refine (begun1 _ hM).mono ?_
  rintro e w1 ⟨rfl, hk1⟩
  have hM1 := hM.keeps hk1 (by simp)
  have hka : Keeps [] w1 (w1.alloc (.cells #[.string ⟨#[104, 116, 116, 112]⟩, .string ⟨#[97]⟩, .string ⟨#[47, 98, 47, 99, 47, 100, 59, 112]⟩, .string ⟨#[113]⟩, .string ⟨#[102]⟩, .bool true, .bool true, .bool true, .bool true] 23)) := (Keeps.refl [] w1).alloc _
  have hU : IsUrl (w1.alloc (.cells #[.string ⟨#[104, 116, 116, 112]⟩, .string ⟨#[97]⟩, .string ⟨#[47, 98, 47, 99, 47, 100, 59, 112]⟩, .string ⟨#[113]⟩, .string ⟨#[102]⟩, .bool true, .bool true, .bool true, .bool true] 23)) w1.heap.size ⟨[104, 116, 116, 112], [97], [47, 98, 47, 99, 47, 100, 59, 112], [113], [102], true, true, true, true⟩ := heap_alloc_new _ _
  have hMa := hM1.keeps hka (by simp)
  go_wp2_with fail
  refine (begun2 _ hMa).mono ?_
  rintro e w2 ⟨rfl, hk2⟩
  go_wp2_with fail
  refine (begun3 _).mono ?_
  rintro e w3 ⟨rfl, hk3⟩
  have hM3 := (hMa.keeps hk2 (by simp)).keeps hk3 (by simp)
  go_wp2_with fail
  refine (begun4 _ hM3).mono ?_
  rintro e w4 ⟨rfl, hk4⟩
  have hM4 := hM3.keeps hk4 (by simp)
  go_wp2_with fail
  refine (begun5 _ hM4).mono ?_
  rintro e w5 ⟨rfl, hk5⟩
  have hM5 := hM4.keeps hk5 (by simp)
  go_wp2_with fail
  refine (begun6 _ hM5).mono ?_
  rintro e w6 ⟨rfl, hk6⟩
  have hk26 := (((hk2.trans hk3).trans hk4).trans hk5).trans hk6
  have hU6 := hU.keeps hk26 (by simp)
  have c1 : w6.cell? ⟨w1.heap.size, 1, none⟩ = some (.string ⟨#[97]⟩) := hU6.cell 1
  have c2 : w6.cell? ⟨w1.heap.size, 2, none⟩ = some (.string ⟨#[47, 98, 47, 99, 47, 100, 59, 112]⟩) := hU6.cell 2
  have c4 : w6.cell? ⟨w1.heap.size, 4, none⟩ = some (.string ⟨#[102]⟩) := hU6.cell 4
  go_wp2_with fail
  go_ret
  exact ⟨rfl, (hk1.trans hka).trans hk26⟩
end Go.Proofs.Ytaeblkmkpfklkac

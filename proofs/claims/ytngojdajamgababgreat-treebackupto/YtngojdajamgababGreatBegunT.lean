/- tags, tokenBegun. -/
import Derived.Test.YtngojdajamgababGreatPrint
namespace Go.Proofs.YtngojdajamgababGreat
open Go.RowKit Go.Maps

def tagsL : List Tok := [⟨2, [97], [([104, 114, 101, 102], [120, 34, 121])], []⟩, ⟨1, [], [], [49, 32, 60, 32, 50]⟩, ⟨3, [97], [], []⟩]
def begunA : List UInt8 := [60, 65, 32, 104, 114, 101, 102, 61, 39, 120, 38, 113, 117, 111, 116, 59, 121, 39, 32, 104, 114, 101, 102, 61, 122, 62, 49, 32, 60, 33, 45, 45, 32, 99, 32, 45, 45, 62, 38, 108, 116, 59, 32, 50, 60, 47, 97, 32, 32, 62]
def begunB : List UInt8 := [97, 60, 98]
def begunC : List UInt8 := [60, 97, 32, 104, 114, 101, 102, 61, 34, 120, 38, 113, 117, 111, 116, 59, 121, 34, 62, 49, 32, 38, 108, 116, 59, 32, 50, 60, 47, 97, 62]

theorem begun_b : readL begunB = [⟨1, [], [], [97, 60, 98]⟩] := by kernel_rfl
theorem begun_c : toksP tagsL = begunC := by kernel_rfl
theorem begun_d : chkL tagsL = 0 := by kernel_rfl
theorem begun_a : readL begunA = tagsL := by kernel_rfl

theorem tags_fit : ∀ t ∈ tagsL, FitsTok t := by
  intro t ht
  simp [tagsL] at ht
  rcases ht with rfl | rfl | rfl
  · exact ⟨by decide, by decide, by intro p hp; simp at hp; subst hp; exact ⟨by decide, by decide⟩, by decide⟩
  · exact ⟨by decide, by decide, by intro p hp; simp at hp, by decide⟩
  · exact ⟨by decide, by decide, by intro p hp; simp at hp, by decide⟩

/-- Cells that are laid anew lie there. -/
theorem lies_new (w : World) (cs : Array Value) (t : TypeId) (n z : Nat) (hn : n ≤ maxLen) (hz : cs.size = n * z) : Lies (w.alloc (.cells cs t)) (.slice (some ⟨w.heap.size, 0, none⟩) n n) n z cs.toList :=
  ⟨by simpa using hz, .inr (.inl ⟨_, 0, n, rfl, Nat.le_refl _, hn, fun j u hj => by
    have := lit_cells w cs t j u hj
    rw [add_zero] at this
    rw [Nat.zero_add]
    exact this⟩)⟩

set_option maxHeartbeats 1000000 in
theorem tags_any (w : World) : Calls Tryz.prog 36 #[] w fun e w' => ∃ v, e = .returned v ∧ Toks w' v tagsL ∧ Keeps [] w w' := by
  go_enter Tryz.func36, Tryz.ntmps36
  go_wp2_with fail
  go_ret
  refine ⟨_, rfl, ⟨[(⟨2, [97], [([104, 114, 101, 102], [120, 34, 121])], []⟩, .slice (some ⟨w.heap.size, 0, none⟩) 1 1), (⟨1, [], [], [49, 32, 60, 32, 50]⟩, .slice none 0 0), (⟨3, [97], [], []⟩, .slice none 0 0)], rfl, ?_, ?_⟩, ((Keeps.refl [] w).alloc _).alloc _⟩
  · have h := lies_new (w.alloc (.cells #[.string ⟨#[104, 114, 101, 102]⟩, .string ⟨#[120, 34, 121]⟩] 83)) #[.int .i64 2, .string ⟨#[97]⟩, .slice (some ⟨w.heap.size, 0, none⟩) 1 1, .string ⟨#[]⟩, .int .i64 1, .string ⟨#[]⟩, .slice none 0 0, .string ⟨#[49, 32, 60, 32, 50]⟩, .int .i64 3, .string ⟨#[97]⟩, .slice none 0 0, .string ⟨#[]⟩] 48 3 4 (by decide) rfl
    rw [show (w.alloc (.cells #[.string ⟨#[104, 114, 101, 102]⟩, .string ⟨#[120, 34, 121]⟩] 83)).heap.size = w.heap.size + 1 from by simp] at h
    exact h
  · intro p hp
    simp at hp
    rcases hp with rfl | rfl | rfl
    · exact (lies_new w #[.string ⟨#[104, 114, 101, 102]⟩, .string ⟨#[120, 34, 121]⟩] 83 1 2 (by decide) rfl).keeps ((Keeps.refl [] _).alloc _)
    · exact ⟨rfl, .inl ⟨rfl, rfl⟩⟩
    · exact ⟨rfl, .inl ⟨rfl, rfl⟩⟩

theorem read_of (l : List UInt8) (w : World) (hl : l.length ≤ 3000) (hM : HasMax w) (ts : List Tok) (h : readL l = ts) :
    Calls Tryz.prog 19 #[.string ⟨l.toArray⟩] w fun e w' => ∃ v, e = .returned (.tuple #[v, .int .i64 0]) ∧ Toks w' v ts ∧ Keeps [] w w' := by
  refine (read_some ⟨l.toArray⟩ w hl hM).mono ?_
  rintro e w' ⟨v, he, ht, hk⟩
  rw [str_list, h] at ht
  exact ⟨v, he, ht.toks, hk⟩

set_option maxRecDepth 8000 in
set_option maxHeartbeats 4000000 in
theorem tokenBegun_any (w : World) (hM : HasMax w) : Calls Tryz.prog 13 #[] w fun e w' => e = .returned (.bool true) ∧ Keeps [] w w' := by
  have r1 := hide (fun (w : World) hM => read_of begunA w (by decide) hM _ begun_a)
  have r2 := hide (fun (w : World) hM => read_of begunB w (by decide) hM _ begun_b)
  go_enter Tryz.func13, Tryz.ntmps13
  go_wp2_with fail
  refine (r1.out _ hM).mono ?_
  rintro e w1 ⟨v1, rfl, ht1, hk1⟩
  go_wp2_with fail
  refine (tags_any _).mono ?_
  rintro e w2 ⟨v2, rfl, ht2, hk2⟩
  go_wp2_with fail
  refine (print_ok _ v2 tagsL ht2 tags_fit (by decide) begun_d).mono ?_
  rw [begun_c]
  rintro e w3 ⟨rfl, hk3⟩
  have hk03 : Keeps [] w w3 := (hk1.trans hk2).trans hk3
  have ht1' := ht1.keeps (hk2.trans hk3)
  clear r1 ht1 ht2
  unfold begunC
  go_wp2_with fail
  refine (r2.out _ (hM.keeps hk03 List.not_mem_nil)).mono ?_
  rintro e w4 ⟨v4, rfl, ht4, hk4⟩
  have ht1'' := ht1'.keeps hk4
  go_wp2_with fail
  refine (tags_any _).mono ?_
  rintro e w5 ⟨v5, rfl, ht5, hk5⟩
  go_wp2_with fail
  refine (check_any _ v5 tagsL ht5 (fun t ht => (tags_fit t ht).fits)).mono ?_
  rw [begun_d]
  rintro e w6 ⟨rfl, hk6⟩
  go_wp2_with fail
  refine (tags_any _).mono ?_
  rintro e w7 ⟨v7, rfl, ht7, hk7⟩
  have ht1v := ((ht1''.keeps hk5).keeps hk6).keeps hk7
  go_wp2_with fail
  refine (sameTokens_eq _ v1 v7 tagsL ht1v ht7).mono ?_
  rintro e w8 ⟨rfl, n8, rfl⟩
  have ht4' := (((ht4.keeps hk5).keeps hk6).keeps hk7).keeps ((Keeps.refl [] w7).drewN n8)
  go_wp2_with fail
  have hL := lies_new (w7.drewN n8) #[.int .i64 1, .string ⟨#[]⟩, .slice none 0 0, .string ⟨#[97, 60, 98]⟩] 48 1 4 (by decide) rfl
  have htl : Toks ((w7.drewN n8).alloc (.cells #[.int .i64 1, .string ⟨#[]⟩, .slice none 0 0, .string ⟨#[97, 60, 98]⟩] 48)) (.slice (some ⟨w7.heap.size, 0, none⟩) 1 1) [⟨1, [], [], [97, 60, 98]⟩] :=
    ⟨[(⟨1, [], [], [97, 60, 98]⟩, .slice none 0 0)], rfl, hL, by intro p hp; simp at hp; subst hp; exact ⟨rfl, .inl ⟨rfl, rfl⟩⟩⟩
  refine (sameTokens_eq _ v4 _ _ (ht4'.keeps ((Keeps.refl [] _).alloc _)) htl).mono ?_
  rintro e w9 ⟨rfl, n9, rfl⟩
  go_wp2_with fail
  go_ret
  exact ⟨rfl, ((((((hk03.trans hk4).trans hk5).trans hk6).trans hk7).drewN _).alloc _).drewN _⟩
end Go.Proofs.YtngojdajamgababGreat

/- page, treeBegun. -/
import Derived.Test.YtaeblkmkpfklkabTreeQR
namespace Go.Proofs.Ytaeblkmkpfklkab
open Go.RowKit Go.Maps

def pageL : List Nd := [.mk [112] [] [] [.mk [] [] [97] [], .mk [98, 114] [] [] []], .mk [117, 108] [] [] [.mk [108, 105] [] [] [.mk [] [] [98] []], .mk [108, 105] [] [] [.mk [] [] [99] []]]]
def pageT : List UInt8 := [60, 112, 62, 97, 60, 98, 114, 62, 60, 117, 108, 62, 60, 108, 105, 62, 98, 60, 108, 105, 62, 99, 60, 47, 120, 62]
def pageK : List Tok := [⟨2, [112], [], []⟩, ⟨1, [], [], [97]⟩, ⟨2, [98, 114], [], []⟩, ⟨2, [117, 108], [], []⟩, ⟨2, [108, 105], [], []⟩, ⟨1, [], [], [98]⟩, ⟨2, [108, 105], [], []⟩, ⟨1, [], [], [99]⟩, ⟨3, [120], [], []⟩]

theorem page_read : readL pageT = pageK := by kernel_rfl
theorem page_chk : chkL pageK = 0 := by kernel_rfl
theorem page_build : buildL pageK = pageL := by kernel_rfl
theorem page_fitsW : walkL fitsF pageL pageL 0 [] 0 = (8, true) := by
  simp [pageL, walkL, fitsF, wrap64]
theorem page_nodeW : walkL nodeF pageL pageL 0 [] 0 = (0, true) := by
  simp only [pageL, walkL, nodeF, List.nil_append, List.cons_append]
  kernel_rfl
theorem page_tree : chkTree pageL = 0 := by
  unfold chkTree
  rw [page_fitsW, page_nodeW]
  rfl
theorem page_flat : (flatL pageL).length = 12 := by simp [pageL, flatL, emptyN]
theorem page_size : sizeNs pageL = 8 := by simp [pageL, sizeNs]

/-- Nodes that are laid anew. -/
theorem ns_new (w : World) (l : List Pn) (cs : Array Value) (hcs : cs.toList = pnsCells l) (hn : l.length ≤ maxLen) (ha : ∀ p ∈ l, p.av = .slice none 0 0 ∧ p.nd.attrs = []) (hk : ∀ p ∈ l, Ns w (fun _ => True) p.kv p.nd.kids) :
    Ns (w.alloc (.cells cs 79)) (fun _ => True) (.slice (some ⟨w.heap.size, 0, none⟩) l.length l.length) (l.map Pn.nd) := by
  refine .mk _ l _ rfl ⟨pnsCells_len l, .inr ⟨w.heap.size, 0, l.length, rfl, Nat.le_refl _, hn, by simp, trivial, fun j u hj => ?_⟩⟩ (fun p hp => ?_) (fun p hp => (hk p hp).keeps0 ((Keeps.refl [] w).alloc _))
  · rw [← hcs] at hj
    have := lit_cells w cs 79 j u hj
    rw [add_zero] at this
    rw [Nat.zero_add]
    exact this
  · rw [(ha p hp).1, (ha p hp).2]
    exact ⟨rfl, .inl ⟨rfl, none, 0, rfl, by simp [maxLen]⟩⟩

theorem nil_ns (w : World) : Ns w (fun _ => True) (.slice none 0 0) [] := Ns.nil _ _ none 0 (by simp [maxLen])

set_option maxRecDepth 8000 in
set_option maxHeartbeats 4000000 in
theorem page_any (w : World) : Calls Try.prog 43 #[] w fun e w' => ∃ v, e = .returned v ∧ Ns w' (fun _ => True) v pageL ∧ Keeps [] w w' := by
  have n0 := ns_new w [⟨.mk [] [] [97] [], .slice none 0 0, .slice none 0 0⟩, ⟨.mk [98, 114] [] [] [], .slice none 0 0, .slice none 0 0⟩] #[.string ⟨#[]⟩, .slice none 0 0, .string ⟨#[97]⟩, .slice none 0 0, .string ⟨#[98, 114]⟩, .slice none 0 0, .string ⟨#[]⟩, .slice none 0 0] rfl (by simp [maxLen]) (by intro p hp; simp at hp; rcases hp with rfl | rfl <;> exact ⟨rfl, rfl⟩) (by intro p hp; simp at hp; rcases hp with rfl | rfl <;> exact nil_ns _)
  obtain ⟨w1, hw1⟩ : ∃ w1, w.alloc (.cells #[.string ⟨#[]⟩, .slice none 0 0, .string ⟨#[97]⟩, .slice none 0 0, .string ⟨#[98, 114]⟩, .slice none 0 0, .string ⟨#[]⟩, .slice none 0 0] 79) = w1 := ⟨_, rfl⟩
  have s1 : w1.heap.size = w.heap.size + 1 := by rw [← hw1]; simp
  have q1 : Keeps [] w w1 := by rw [← hw1]; exact (Keeps.refl [] w).alloc _
  rw [hw1] at n0
  have n1 := ns_new w1 [⟨.mk [] [] [98] [], .slice none 0 0, .slice none 0 0⟩] #[.string ⟨#[]⟩, .slice none 0 0, .string ⟨#[98]⟩, .slice none 0 0] rfl (by decide) (by intro p hp; simp at hp; subst hp; exact ⟨rfl, rfl⟩) (by intro p hp; simp at hp; subst hp; exact nil_ns _)
  obtain ⟨w2, hw2⟩ : ∃ w2, w1.alloc (.cells #[.string ⟨#[]⟩, .slice none 0 0, .string ⟨#[98]⟩, .slice none 0 0] 79) = w2 := ⟨_, rfl⟩
  have s2 : w2.heap.size = w.heap.size + 2 := by rw [← hw2]; simp [s1]
  have q2 : Keeps [] w1 w2 := by rw [← hw2]; exact (Keeps.refl [] w1).alloc _
  rw [hw2, s1] at n1
  have n2 := ns_new w2 [⟨.mk [] [] [99] [], .slice none 0 0, .slice none 0 0⟩] #[.string ⟨#[]⟩, .slice none 0 0, .string ⟨#[99]⟩, .slice none 0 0] rfl (by decide) (by intro p hp; simp at hp; subst hp; exact ⟨rfl, rfl⟩) (by intro p hp; simp at hp; subst hp; exact nil_ns _)
  obtain ⟨w3, hw3⟩ : ∃ w3, w2.alloc (.cells #[.string ⟨#[]⟩, .slice none 0 0, .string ⟨#[99]⟩, .slice none 0 0] 79) = w3 := ⟨_, rfl⟩
  have s3 : w3.heap.size = w.heap.size + 3 := by rw [← hw3]; simp [s2]
  have q3 : Keeps [] w2 w3 := by rw [← hw3]; exact (Keeps.refl [] w2).alloc _
  rw [hw3, s2] at n2
  have n3 := ns_new w3 [⟨.mk [108, 105] [] [] [.mk [] [] [98] []], .slice none 0 0, .slice (some ⟨w.heap.size + 1, 0, none⟩) 1 1⟩, ⟨.mk [108, 105] [] [] [.mk [] [] [99] []], .slice none 0 0, .slice (some ⟨w.heap.size + 2, 0, none⟩) 1 1⟩] #[.string ⟨#[108, 105]⟩, .slice none 0 0, .string ⟨#[]⟩, .slice (some ⟨w.heap.size + 1, 0, none⟩) 1 1, .string ⟨#[108, 105]⟩, .slice none 0 0, .string ⟨#[]⟩, .slice (some ⟨w.heap.size + 2, 0, none⟩) 1 1] rfl (by simp [maxLen]) (by intro p hp; simp at hp; rcases hp with rfl | rfl <;> exact ⟨rfl, rfl⟩) (by
    intro p hp; simp at hp
    rcases hp with rfl | rfl
    · exact n1.keeps0 q3
    · exact n2)
  obtain ⟨w4, hw4⟩ : ∃ w4, w3.alloc (.cells #[.string ⟨#[108, 105]⟩, .slice none 0 0, .string ⟨#[]⟩, .slice (some ⟨w.heap.size + 1, 0, none⟩) 1 1, .string ⟨#[108, 105]⟩, .slice none 0 0, .string ⟨#[]⟩, .slice (some ⟨w.heap.size + 2, 0, none⟩) 1 1] 79) = w4 := ⟨_, rfl⟩
  have s4 : w4.heap.size = w.heap.size + 4 := by rw [← hw4]; simp [s3]
  have q4 : Keeps [] w3 w4 := by rw [← hw4]; exact (Keeps.refl [] w3).alloc _
  rw [hw4, s3] at n3
  have n4 := ns_new w4 [⟨.mk [112] [] [] [.mk [] [] [97] [], .mk [98, 114] [] [] []], .slice none 0 0, .slice (some ⟨w.heap.size, 0, none⟩) 2 2⟩, ⟨.mk [117, 108] [] [] [.mk [108, 105] [] [] [.mk [] [] [98] []], .mk [108, 105] [] [] [.mk [] [] [99] []]], .slice none 0 0, .slice (some ⟨w.heap.size + 3, 0, none⟩) 2 2⟩] #[.string ⟨#[112]⟩, .slice none 0 0, .string ⟨#[]⟩, .slice (some ⟨w.heap.size, 0, none⟩) 2 2, .string ⟨#[117, 108]⟩, .slice none 0 0, .string ⟨#[]⟩, .slice (some ⟨w.heap.size + 3, 0, none⟩) 2 2] rfl (by simp [maxLen]) (by intro p hp; simp at hp; rcases hp with rfl | rfl <;> exact ⟨rfl, rfl⟩) (by
    intro p hp; simp at hp
    rcases hp with rfl | rfl
    · exact n0.keeps0 ((q2.trans q3).trans q4)
    · exact n3)
  rw [s4] at n4
  have qq : Keeps [] w (w4.alloc (.cells #[.string ⟨#[112]⟩, .slice none 0 0, .string ⟨#[]⟩, .slice (some ⟨w.heap.size, 0, none⟩) 2 2, .string ⟨#[117, 108]⟩, .slice none 0 0, .string ⟨#[]⟩, .slice (some ⟨w.heap.size + 3, 0, none⟩) 2 2] 79)) := (((q1.trans q2).trans q3).trans q4).alloc _
  have hH : Hid (w.alloc (.cells #[.string ⟨#[]⟩, .slice none 0 0, .string ⟨#[97]⟩, .slice none 0 0, .string ⟨#[98, 114]⟩, .slice none 0 0, .string ⟨#[]⟩, .slice none 0 0] 79) = w1 ∧ w1.alloc (.cells #[.string ⟨#[]⟩, .slice none 0 0, .string ⟨#[98]⟩, .slice none 0 0] 79) = w2 ∧ w2.alloc (.cells #[.string ⟨#[]⟩, .slice none 0 0, .string ⟨#[99]⟩, .slice none 0 0] 79) = w3 ∧ w3.alloc (.cells #[.string ⟨#[108, 105]⟩, .slice none 0 0, .string ⟨#[]⟩, .slice (some ⟨w.heap.size + 1, 0, none⟩) 1 1, .string ⟨#[108, 105]⟩, .slice none 0 0, .string ⟨#[]⟩, .slice (some ⟨w.heap.size + 2, 0, none⟩) 1 1] 79) = w4) := ⟨hw1, hw2, hw3, hw4⟩
  clear hw1 hw2 hw3 hw4 s1 s2 s3 s4
  go_enter Try.func43, Try.ntmps43
  go_wp2_with fail
  rw [hH.out.1, hH.out.2.1, hH.out.2.2.1, hH.out.2.2.2]
  go_ret
  exact ⟨_, rfl, n4, qq⟩

theorem page_fits : FitsNs pageL := by
  simp [pageL, FitsNs, Fits, maxLen]
theorem page_few : FewNs pageL := by
  simp [pageL, FewNs]

theorem pageK_fit : ∀ t ∈ pageK, FitsT t := by
  intro t ht
  simp [pageK] at ht
  rcases ht with rfl | rfl | rfl | rfl | rfl | rfl | rfl | rfl | rfl <;> exact ⟨by decide, by intro p hp; simp at hp⟩
theorem pageK_at : ∀ t ∈ pageK, t.attrs.length ≤ 2000000 := by
  intro t ht
  simp [pageK] at ht
  rcases ht with rfl | rfl | rfl | rfl | rfl | rfl | rfl | rfl | rfl <;> decide

theorem HasMax.pos {w : World} (h : HasMax w) : 0 < w.heap.size := by
  unfold HasMax World.cell? at h
  rcases Nat.eq_zero_or_pos w.heap.size with h0 | h0
  · rw [Array.getElem?_eq_none (by simp [h0])] at h
    simp at h
  · exact h0

set_option maxRecDepth 8000 in
set_option maxHeartbeats 4000000 in
theorem treeBegun_any (w : World) (hM : HasMax w) : Calls Try.prog 12 #[] w fun e w' => e = .returned (.bool true) ∧ Keeps [] w w' := by
  have r1 := hide (fun (w : World) hM => read_of pageT w (by decide) hM _ page_read)
  go_enter Try.func12, Try.ntmps12
  go_wp2_with fail
  refine (r1.out _ hM).mono ?_
  rintro e w1 ⟨v1, rfl, ht1, hk1⟩
  obtain ⟨o1, n1, c1, hv1⟩ : ∃ o n c, v1 = .slice o n c := by
    obtain ⟨l, _, hl, _⟩ := ht1
    obtain ⟨o, c, h, _⟩ := hl.form
    exact ⟨o, _, c, h⟩
  subst hv1
  have hM1 := hM.keeps hk1 List.not_mem_nil
  have hbd := hide (build_any w1 _ pageK ht1 pageK_fit hM1.pos pageK_at (by decide))
  rw [page_chk, if_pos rfl, page_build] at hbd
  clear r1
  go_wp2_with fail
  refine hbd.out.mono ?_
  rintro e w2 ⟨v2, rfl, hN2, hk2⟩
  obtain ⟨o2, c2, hv2⟩ := hN2.form
  subst hv2
  clear hbd
  go_wp2_with fail
  refine (page_any _).mono ?_
  rintro e w3 ⟨v3, rfl, hN3, hk3⟩
  obtain ⟨o3, c3, hv3⟩ := hN3.form
  subst hv3
  have hfl := hide (treeFlat_any w3 _ _ pageL hN3 (by rw [page_size]; decide) page_fits page_few)
  rw [page_tree, if_pos rfl, if_pos rfl, page_flat] at hfl
  go_wp2_with fail
  refine hfl.out.mono ?_
  rintro e w4 ⟨v4, rfl, ⟨n4, c4, a4, hv4, hn4⟩, _, hk4⟩
  subst hv4
  subst hn4
  clear hfl
  go_wp2_with fail
  refine (page_any _).mono ?_
  rintro e w5 ⟨v5, rfl, hN5, hk5⟩
  obtain ⟨o5, c5, hv5⟩ := hN5.form
  subst hv5
  have hck := hide (treeCheck_any w5 _ _ pageL hN5 (by rw [page_size]; decide) page_fits)
  rw [page_tree] at hck
  go_wp2_with fail
  refine hck.out.mono ?_
  rintro e w6 ⟨rfl, hk6⟩
  clear hck
  go_wp2_with fail
  refine (page_any _).mono ?_
  rintro e w7 ⟨v7, rfl, hN7, hk7⟩
  obtain ⟨o7, c7, hv7⟩ := hN7.form
  subst hv7
  have hk27 : Keeps [] w2 w7 := (((hk3.trans hk4).trans hk5).trans hk6).trans hk7
  go_wp2_with fail
  refine (sameNodes_eq _ _ w2 _ pageL hN2 _ w7 hk27 hN7).mono ?_
  rintro e w8 ⟨rfl, n8, rfl⟩
  go_wp2_with fail
  go_ret
  exact ⟨rfl, ((hk1.trans hk2).trans hk27).drewN _⟩
end Go.Proofs.Ytaeblkmkpfklkab

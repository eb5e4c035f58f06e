/- Join. -/
import Derived.Test.YtaeblkmkpfklkacUrlC
import Derived.Laws.StructEq
namespace Go.Proofs.Ytaeblkmkpfklkac
open Go.RowKit

theorem strEq (x y : List UInt8) : ((⟨x.toArray⟩ : ByteArray).toList == (⟨y.toArray⟩ : ByteArray).toList) = decide (x = y) := by
  rw [ByteArray.toList_eq, ByteArray.toList_eq, Bool.eq_iff_iff]
  simp

theorem url_ext (a b : UrlT) : (a = b) ↔ (a.scheme = b.scheme ∧ a.authority = b.authority ∧ a.path = b.path ∧ a.query = b.query ∧ a.fragment = b.fragment ∧ a.hs = b.hs ∧ a.ha = b.ha ∧ a.hq = b.hq ∧ a.hf = b.hf) := by
  cases a
  cases b
  simp

set_option maxHeartbeats 2000000 in
theorem eqUrl (x y : UrlT) (w : World) : (binOp .neq 23 (urlV x) (urlV y)).run Try.prog w = .ok (.bool (decide (x ≠ y))) w := by
  have u9 := Try.underlying9
  have u4 := Try.underlying4
  have hS : Try.prog.underlying 23 = some (.struct (Try.prog.fieldsOf 23)) := by kernel_rfl
  have hp : Try.prog.stoodInHeld 23 = false := by kernel_rfl
  unfold urlV urlCells
  rw [run_neq_struct, show (10000 : Nat) = 9999 + 1 from rfl, run_equalIn_agg w 9999 23 _ _ hS hp]
  simp only [Program.fieldsOf, Try.underlying23]
  go_simp
  have e := url_ext x y
  by_cases h : x = y
  · subst h
    simp
  · have h' := mt e.2 h
    rw [decide_eq_false h]
    repeat' split
    all_goals first | rfl | (exfalso; exact h' ⟨by assumption, by assumption, by assumption, by assumption, by assumption, by assumption, by assumption, by assumption, by assumption⟩)

/-- What Join and Resolve answer: a text, or ErrForm. -/
def ansO (a : Option (List UInt8)) : Ending := match a with
  | some x => .returned (.tuple #[.string ⟨x.toArray⟩, .int .i64 0])
  | none => .returned (.tuple #[.string ⟨#[]⟩, .int .i64 1])

theorem box_url (w : World) (u : UrlT) : IsUrl (w.alloc (.cells #[.string ⟨u.scheme.toArray⟩, .string ⟨u.authority.toArray⟩, .string ⟨u.path.toArray⟩, .string ⟨u.query.toArray⟩, .string ⟨u.fragment.toArray⟩, .bool u.hs, .bool u.ha, .bool u.hq, .bool u.hf] 23)) w.heap.size u := heap_alloc_new _ _

def Short (u : UrlT) : Prop := u.scheme.length ≤ 20000 ∧ u.authority.length ≤ 20000 ∧ u.path.length ≤ 20000 ∧ u.query.length ≤ 20000 ∧ u.fragment.length ≤ 20000

set_option maxRecDepth 4000 in
set_option maxHeartbeats 4000000 in
theorem join_any (u : UrlT) (w : World) (hl : Short u) (hM : HasMax w) :
    Calls Try.prog 8 #[urlV u] w fun e w' => e = ansO (joinsL u) ∧ Keeps [] w w' := by
  have hjn := hide (fun w => joined_any u w hl)
  have hJ : Hid (joinsL u = if (joinL u).length ≤ 3000 ∧ splitL (joinL u) = u then some (joinL u) else none) := rfl
  have hlen : (joinL u).length ≤ 200000 := by
    obtain ⟨h1, h2, h3, h4, h5⟩ := hl
    have l1 := if_len u.hs (u.scheme ++ [58])
    have l2 := if_len u.ha ([47, 47] ++ u.authority)
    have l4 := if_len u.hq (63 :: u.query)
    have l5 := if_len u.hf (35 :: u.fragment)
    unfold joinL
    simp only [List.length_append, List.length_cons, List.length_nil] at l1 l2 l4 l5 ⊢
    omega
  clear hl
  generalize joinL u = A at *
  have hlong := hide (fun (w : World) (h : 3000 < A.length) => split_long ⟨A.toArray⟩ w (by rw [str_size]; unfold maxLen; omega) h)
  have hshort := hide (fun (w : World) (h : ¬ 3000 < A.length) (hM : HasMax w) => split_short ⟨A.toArray⟩ w h hM)
  rw [str_list] at hshort
  have hbx := box_url w u
  have hka : Keeps [] w _ := (Keeps.refl [] w).alloc (.cells #[.string ⟨u.scheme.toArray⟩, .string ⟨u.authority.toArray⟩, .string ⟨u.path.toArray⟩, .string ⟨u.query.toArray⟩, .string ⟨u.fragment.toArray⟩, .bool u.hs, .bool u.ha, .bool u.hq, .bool u.hf] 23)
  by_cases hL : 3000 < A.length
  · rw [hJ.out, if_neg (by omega)]
    unfold ansO
    unfold urlV urlCells at hjn ⊢
    have hlo := hide (fun w => hlong.out w hL)
    clear hlong hshort hL hlen
    unfold urlV urlCells noUrl at hlo
    go_enter Try.func8, Try.ntmps8
    go_wp2_with fail
    refine (hjn.out _).mono ?_
    rintro e w1 ⟨rfl, hk1⟩
    go_wp2_with fail
    refine (hlo.out _).mono ?_
    rintro e w2 ⟨rfl, hk2⟩
    go_wp2_with fail
    go_ret2
    exact ⟨rfl, ((hka.trans hk1).trans hk2).alloc _⟩
  · have hsh := hide (fun w hM => hshort.out w hL hM)
    have hgd : Try.prog.eqGuardType Try.prog.depth 23 = false := by kernel_rfl
    have hJ2 : Hid (joinsL u = if splitL A = u then some A else none) := by
      rw [hJ.out]
      by_cases h : splitL A = u
      · rw [if_pos ⟨by omega, h⟩, if_pos h]; exact rfl
      · rw [if_neg (fun hh => h hh.2), if_neg h]; exact rfl
    clear hlong hshort hL hlen hJ
    generalize splitL A = C at *
    by_cases hE : C = u
    · rw [hJ2.out, if_pos hE]
      unfold ansO
      have heq : ∀ w, (binOp .neq 23 (urlV C) (urlV u)).run Try.prog w = .ok (.bool false) w := fun w => (eqUrl C u w).trans (by rw [decide_eq_false (by simpa using hE)])
      unfold urlV urlCells at heq hjn hsh ⊢
      go_enter Try.func8, Try.ntmps8
      go_wp2_with fail
      refine (hjn.out _).mono ?_
      rintro e w1 ⟨rfl, hk1⟩
      go_wp2_with fail
      refine (hsh.out _ (hM.keeps (hka.trans hk1) (by simp))).mono ?_
      rintro e w2 ⟨rfl, hk2⟩
      have hu2 := fun o => (hbx.keeps (hk1.trans hk2) (by simp)).keeps ((Keeps.refl [] w2).alloc o) (by simp)
      have u0 : ∀ o, (w2.alloc o).cell? ⟨w.heap.size, 0, none⟩ = some (.string ⟨u.scheme.toArray⟩) := fun o => (hu2 o).cell 0
      have u1 : ∀ o, (w2.alloc o).cell? ⟨w.heap.size, 1, none⟩ = some (.string ⟨u.authority.toArray⟩) := fun o => (hu2 o).cell 1
      have u2 : ∀ o, (w2.alloc o).cell? ⟨w.heap.size, 2, none⟩ = some (.string ⟨u.path.toArray⟩) := fun o => (hu2 o).cell 2
      have u3 : ∀ o, (w2.alloc o).cell? ⟨w.heap.size, 3, none⟩ = some (.string ⟨u.query.toArray⟩) := fun o => (hu2 o).cell 3
      have u4 : ∀ o, (w2.alloc o).cell? ⟨w.heap.size, 4, none⟩ = some (.string ⟨u.fragment.toArray⟩) := fun o => (hu2 o).cell 4
      have u5 : ∀ o, (w2.alloc o).cell? ⟨w.heap.size, 5, none⟩ = some (.bool u.hs) := fun o => (hu2 o).cell 5
      have u6 : ∀ o, (w2.alloc o).cell? ⟨w.heap.size, 6, none⟩ = some (.bool u.ha) := fun o => (hu2 o).cell 6
      have u7 : ∀ o, (w2.alloc o).cell? ⟨w.heap.size, 7, none⟩ = some (.bool u.hq) := fun o => (hu2 o).cell 7
      have u8 : ∀ o, (w2.alloc o).cell? ⟨w.heap.size, 8, none⟩ = some (.bool u.hf) := fun o => (hu2 o).cell 8
      clear hu2
      go_wp2_with fail
      go_ret2
      exact ⟨rfl, ((hka.trans hk1).trans hk2).alloc _⟩
    · rw [hJ2.out, if_neg hE]
      unfold ansO
      have heq : ∀ w, (binOp .neq 23 (urlV C) (urlV u)).run Try.prog w = .ok (.bool true) w := fun w => (eqUrl C u w).trans (by rw [decide_eq_true (hE)])
      unfold urlV urlCells at heq hjn hsh ⊢
      go_enter Try.func8, Try.ntmps8
      go_wp2_with fail
      refine (hjn.out _).mono ?_
      rintro e w1 ⟨rfl, hk1⟩
      go_wp2_with fail
      refine (hsh.out _ (hM.keeps (hka.trans hk1) (by simp))).mono ?_
      rintro e w2 ⟨rfl, hk2⟩
      have hu2 := fun o => (hbx.keeps (hk1.trans hk2) (by simp)).keeps ((Keeps.refl [] w2).alloc o) (by simp)
      have u0 : ∀ o, (w2.alloc o).cell? ⟨w.heap.size, 0, none⟩ = some (.string ⟨u.scheme.toArray⟩) := fun o => (hu2 o).cell 0
      have u1 : ∀ o, (w2.alloc o).cell? ⟨w.heap.size, 1, none⟩ = some (.string ⟨u.authority.toArray⟩) := fun o => (hu2 o).cell 1
      have u2 : ∀ o, (w2.alloc o).cell? ⟨w.heap.size, 2, none⟩ = some (.string ⟨u.path.toArray⟩) := fun o => (hu2 o).cell 2
      have u3 : ∀ o, (w2.alloc o).cell? ⟨w.heap.size, 3, none⟩ = some (.string ⟨u.query.toArray⟩) := fun o => (hu2 o).cell 3
      have u4 : ∀ o, (w2.alloc o).cell? ⟨w.heap.size, 4, none⟩ = some (.string ⟨u.fragment.toArray⟩) := fun o => (hu2 o).cell 4
      have u5 : ∀ o, (w2.alloc o).cell? ⟨w.heap.size, 5, none⟩ = some (.bool u.hs) := fun o => (hu2 o).cell 5
      have u6 : ∀ o, (w2.alloc o).cell? ⟨w.heap.size, 6, none⟩ = some (.bool u.ha) := fun o => (hu2 o).cell 6
      have u7 : ∀ o, (w2.alloc o).cell? ⟨w.heap.size, 7, none⟩ = some (.bool u.hq) := fun o => (hu2 o).cell 7
      have u8 : ∀ o, (w2.alloc o).cell? ⟨w.heap.size, 8, none⟩ = some (.bool u.hf) := fun o => (hu2 o).cell 8
      clear hu2
      go_wp2_with fail
      go_ret2
      exact ⟨rfl, ((hka.trans hk1).trans hk2).alloc _⟩
end Go.Proofs.Ytaeblkmkpfklkac

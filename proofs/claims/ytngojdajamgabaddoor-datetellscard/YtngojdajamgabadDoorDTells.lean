/- DateTells' walk: Web, Mail and Print answer just what the document says. -/
import Derived.Test.YtngojdajamgabadDoorDRefE
namespace Go.Proofs.YtngojdajamgabadDoor
open Go.RowKit

theorem told_or (a : Int) : (∃ x : Nat, x ≤ 4102444799 ∧ a = x) ∨ (decide (0 ≤ a) && decide (a ≤ 4102444799)) = false := by
  by_cases h : 0 ≤ a ∧ a ≤ 4102444799
  · exact .inl ⟨a.toNat, by omega, (Int.toNat_of_nonneg h.1).symm⟩
  · right
    rw [Bool.and_eq_false_iff]
    rcases Decidable.em (0 ≤ a) with h1 | h1
    · exact .inr (decide_eq_false (fun h2 => h ⟨h1, h2⟩))
    · exact .inl (decide_eq_false h1)

set_option maxRecDepth 100000 in
set_option maxHeartbeats 4000000 in
theorem dateTells_any (s : ByteArray) (a : Int) (w : World) (hs : s.size ≤ 140737488351232) (ht : HasTab w) :
    Calls Tryd.prog 3 #[.string s, .int .i64 a] w fun e w' => e = .returned (.bool true) ∧ Keeps [] w w' := by
  have hw := hide (fun W => Web_any s W hs)
  have hm := hide (fun W => Mail_any s W hs)
  have rw1 := hide (fun W => WebOf_any s W hs)
  have rm1 := hide (fun W => MailOf_any s W hs)
  have e1 := web_ref s.data.toList
  have e2 := mail_ref s.data.toList
  rw [len_size] at e1 e2
  rw [e1] at hw
  rw [e2] at hm
  unfold ansP at rw1 rm1
  unfold ansV at hw hm
  clear e1 e2
  generalize refWeb s.data.toList = A at *
  generalize refMail s.data.toList = B at *
  rcases told_or a with ⟨x, hx, rfl⟩ | h1
  · have hp := hide (fun W (hk : Keeps [] w W) => print_yes x W hx (ht.keeps hk))
    have hd := hide (fun W => DateOf_any x W hx)
    have l1 : ¬ ((x : Int) < 0) := by omega
    have l2 : decide ((4102444799 : Int) < (x : Int)) = false := decide_eq_false (by omega)
    have l3 : decide ((x : Int) < 0) = false := decide_eq_false (by omega)
    go_enter Tryd.func3, Tryd.ntmps3
    go_wp2_with fail
    refine (hw.out _).mono ?_
    rintro e w1 ⟨rfl, hk1⟩
    go_wp2_with fail
    refine (hm.out _).mono ?_
    rintro e w2 ⟨rfl, hk2⟩
    have hk02 := hk1.trans hk2
    go_wp2_with fail
    refine (hp.out _ hk02).mono ?_
    rintro e w3 ⟨y, m, d, hD, rfl, hk3⟩
    generalize hX : (⟨(stamp y m d (x % 86400)).toArray⟩ : ByteArray) = X
    have HX := hide hX
    clear hX
    go_wp2_with fail
    refine (rw1.out _).mono ?_
    rintro e w4 ⟨rfl, hk4⟩
    go_wp2_with fail
    refine (rm1.out _).mono ?_
    rintro e w5 ⟨rfl, hk5⟩
    go_wp2_with fail
    refine (hd.out _).mono ?_
    rintro e w6 ⟨y2, m2, d2, hD2, rfl, hk6⟩
    obtain ⟨ey, em, ed⟩ := (day_order hD2 hD).2 rfl
    subst ey
    subst em
    subst ed
    rw [HX.out]
    clear HX hD hD2
    have hk06 := (((hk02.trans hk3).trans (Dr.keeps hk4)).trans hk5).trans hk6
    go_wp2_with fail
    refine (dateBegun_any _ (ht.keeps hk06)).mono ?_
    rintro e w7 ⟨rfl, hk7⟩
    go_wp2_with fail
    go_ret
    exact ⟨by first | rfl | simp, hk06.trans hk7⟩
  · have hp := hide (fun W => print_no a W h1)
    have hcase : (a < 0) ∨ (¬ a < 0 ∧ 4102444799 < a) := by
      rw [Bool.and_eq_false_iff] at h1
      rcases h1 with h | h
      · have := of_decide_eq_false h; omega
      · have := of_decide_eq_false h; omega
    clear h1
    rcases hcase with l1 | ⟨l1, l2⟩
    all_goals
      go_enter Tryd.func3, Tryd.ntmps3
      go_wp2_with fail
      refine (hw.out _).mono ?_
      rintro e w1 ⟨rfl, hk1⟩
      go_wp2_with fail
      refine (hm.out _).mono ?_
      rintro e w2 ⟨rfl, hk2⟩
      have hk02 := hk1.trans hk2
      go_wp2_with fail
      refine (hp.out _).mono ?_
      rintro e w3 ⟨rfl, h3⟩
      obtain rfl : w2 = w3 := h3.symm
      go_wp2_with fail
      refine (rw1.out _).mono ?_
      rintro e w4 ⟨rfl, hk4⟩
      go_wp2_with fail
      refine (rm1.out _).mono ?_
      rintro e w5 ⟨rfl, hk5⟩
      have hk06 := (hk02.trans (Dr.keeps hk4)).trans hk5
      go_wp2_with fail
      refine (dateBegun_any _ (ht.keeps hk06)).mono ?_
      rintro e w7 ⟨rfl, hk7⟩
      go_wp2_with fail
      go_ret
      exact ⟨by first | rfl | simp, hk06.trans hk7⟩
end Go.Proofs.YtngojdajamgabadDoor

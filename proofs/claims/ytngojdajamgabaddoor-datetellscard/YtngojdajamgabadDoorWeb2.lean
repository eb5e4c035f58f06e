/- Web, Mail: the two calls. -/
import Derived.Test.YtngojdajamgabadDoorAt
import Derived.Test.YtngojdajamgabadDoorMail
namespace Go.Proofs.YtngojdajamgabadDoor
open Go.RowKit

theorem bind_some_of {α β : Type} {o : Option α} {f : α → Option β} {z : β} (h : o.bind f = some z) : ∃ x, o = some x ∧ f x = some z := by
  cases o with
  | none => simp at h
  | some x => exact ⟨x, rfl, h⟩

theorem numL_le {l : List UInt8} {n k x k' : Nat} (h : numL l n k 0 = some (x, k')) : x < 10 ^ n := by
  have := (numL_bound l n k 0 x k' h).1
  simpa using this
theorem todL_le {l : List UInt8} {k x k' : Nat} (h : todL l k = some (x, k')) : x ≤ 86399 := by
  unfold todL at h
  obtain ⟨⟨x1, k1⟩, h1, h⟩ := bind_some_of h
  obtain ⟨k2, h2, h⟩ := bind_some_of h
  obtain ⟨⟨x3, k3⟩, h3, h⟩ := bind_some_of h
  obtain ⟨k4, h4, h⟩ := bind_some_of h
  obtain ⟨⟨x5, k5⟩, h5, h⟩ := bind_some_of h
  have := upL_le h1
  have := upL_le h3
  have := upL_le h5
  simp only [Option.some.injEq, Prod.mk.injEq] at h
  omega
theorem offTail_le {l : List UInt8} {k : Nat} {mark : List UInt8} {x k' : Nat} (h : offTail l k mark = some (x, k')) : x ≤ 86340 := by
  unfold offTail at h
  obtain ⟨⟨x1, k1⟩, h1, h⟩ := bind_some_of h
  obtain ⟨k2, h2, h⟩ := bind_some_of h
  obtain ⟨⟨x3, k3⟩, h3, h⟩ := bind_some_of h
  have := upL_le h1
  have := upL_le h3
  simp only [Option.some.injEq, Prod.mk.injEq] at h
  omega
theorem offL_le {l : List UInt8} {k : Nat} {mark : List UInt8} {x : Int} {k' : Nat} (h : offL l k mark = some (x, k')) : -86400 < x ∧ x < 86400 := by
  unfold offL at h
  split at h
  · simp only [Option.map_eq_some_iff] at h
    obtain ⟨⟨x1, k1⟩, h1, h2⟩ := h
    have := offTail_le h1
    simp only [Prod.mk.injEq] at h2
    omega
  · obtain ⟨k2, h2, h⟩ := bind_some_of h
    simp only [Option.map_eq_some_iff] at h
    obtain ⟨⟨x1, k1⟩, h1, h2⟩ := h
    have := offTail_le h1
    simp only [Prod.mk.injEq] at h2
    omega

theorem webL_bound (l : List UInt8) : BoundR (webL l) := by
  intro y m d c a k h
  unfold webL at h
  obtain ⟨⟨x1, k1⟩, h1, h⟩ := bind_some_of h
  obtain ⟨k2, h2, h⟩ := bind_some_of h
  obtain ⟨⟨x3, k3⟩, h3, h⟩ := bind_some_of h
  obtain ⟨k4, h4, h⟩ := bind_some_of h
  obtain ⟨⟨x5, k5⟩, h5, h⟩ := bind_some_of h
  obtain ⟨k6, h6, h⟩ := bind_some_of h
  obtain ⟨⟨x7, k7⟩, h7, h⟩ := bind_some_of h
  have b1 := numL_le h1
  have b3 := numL_le h3
  have b5 := numL_le h5
  have b7 := todL_le h7
  simp at b1 b3 b5
  split at h
  · simp only [Option.some.injEq, Prod.mk.injEq] at h
    omega
  · obtain ⟨⟨x8, k8⟩, h8, h⟩ := bind_some_of h
    have b8 := offL_le h8
    simp only [Option.some.injEq, Prod.mk.injEq] at h
    omega

theorem monF_le (l : List UInt8) (k : Nat) : ∀ n x k', monF l k n = some (x, k') → x ≤ 12
  | 0, x, k', h => by simp [monF] at h
  | n + 1, x, k', h => by
    rw [monF_succ] at h
    split at h
    · simp only [Option.some.injEq, Prod.mk.injEq] at h; omega
    · exact monF_le l k n x k' h

theorem mailL_bound (l : List UInt8) : BoundR (mailL l) := by
  intro y m d c a k h
  unfold mailL at h
  obtain ⟨k0, h0, h⟩ := bind_some_of h
  obtain ⟨⟨x1, k1⟩, h1, h⟩ := bind_some_of h
  obtain ⟨k2, h2, h⟩ := bind_some_of h
  obtain ⟨⟨x3, k3⟩, h3, h⟩ := bind_some_of h
  obtain ⟨k4, h4, h⟩ := bind_some_of h
  obtain ⟨⟨x5, k5⟩, h5, h⟩ := bind_some_of h
  obtain ⟨k6, h6, h⟩ := bind_some_of h
  obtain ⟨⟨x7, k7⟩, h7, h⟩ := bind_some_of h
  obtain ⟨k8, h8, h⟩ := bind_some_of h
  have b1 : x1 ≤ 99 := by
    unfold shortL at h1
    split at h1
    · have := numL_le h1; simp at this; omega
    · have := numL_le h1; simp at this; omega
  have b3 := monF_le l _ 12 _ _ h3
  have b5 := numL_le h5
  have b7 := todL_le h7
  simp at b5
  split at h
  · simp only [Option.some.injEq, Prod.mk.injEq] at h
    omega
  · split at h
    · simp only [Option.some.injEq, Prod.mk.injEq] at h
      omega
    · obtain ⟨⟨x9, k9⟩, h9, h⟩ := bind_some_of h
      have b9 := offL_le h9
      simp only [Option.some.injEq, Prod.mk.injEq] at h
      omega

theorem keeps_new {S : List Nat} {w w1 w2 : World} (h : Keeps [] w w1) (h2 : Keeps S w1 w2) (hS : ∀ k, k ∈ S → w.heap.size ≤ k) : Keeps [] w w2 :=
  ⟨h2.os.trans h.os, h2.tape.trans h.tape, h2.output.trans h.output, Nat.le_trans h.size h2.size, fun k hk _ => (h2.block k (Nat.lt_of_lt_of_le hk h.size) (fun hs => by have := hS k hs; omega)).trans (h.block k hk (by simp))⟩

theorem enters13 : Enters 13 := enters_of Tryd.func13 (by kernel_rfl) rfl
theorem enters14 : Enters 14 := enters_of Tryd.func14 (by kernel_rfl) rfl

set_option maxRecDepth 100000 in
set_option maxHeartbeats 1000000 in
theorem Web_any (s : ByteArray) (w : World) (hs : s.size ≤ 140737488351232) :
    Calls Tryd.prog 4 #[.string s] w fun e w' => e = .returned (ansV (ansL (webL s.data.toList) s.size)) ∧ Keeps [] w w' := by
  have hmf : ∀ (fn : Fn) (first cap : Array Value) (w : World), (Instr.makeFunc fn first cap).run Tryd.prog w = .ok (.func fn first cap) w := fun _ _ _ _ => rfl
  have hb := webL_bound s.data.toList
  have hr := hide (fun w1 (hT : IsText w1 w.heap.size s 0) (hD : IsRd w1 (w.heap.size + 1) w.heap.size 0 0 0 0 0) => web_any (w.heap.size + 1) w.heap.size s w1 hs hT (by omega) hD)
  have hat := hide (fun w1 (hT : IsText w1 w.heap.size s 0) (hD : IsRd w1 (w.heap.size + 1) w.heap.size 0 0 0 0 0) => at_any 13 (webL s.data.toList) (w.heap.size + 1) w.heap.size s w1 hT (by omega) hD enters13 hb (fun w2 hk => hr.out w2 (hT.keeps hk (by simp)) (hD.keeps hk (by simp))))
  clear hr hb
  generalize ansL (webL s.data.toList) s.size = A at *
  unfold ansV at *
  go_enter Tryd.func4, Tryd.ntmps4
  go_wp2_with (go_at_call 11; refine (new_any _ _).mono ?_; rintro e w' ⟨rfl, rfl⟩)
  refine (hat.out _ (two_fst _ _ _) (two_snd _ _ _)).mono ?_
  rintro e w1 ⟨rfl, hk1⟩
  go_wp2_with fail
  go_ret2
  exact ⟨rfl, keeps_new (((Keeps.refl [] w).alloc _).alloc _) hk1 (by simp)⟩
set_option maxRecDepth 100000 in
set_option maxHeartbeats 1000000 in
theorem Mail_any (s : ByteArray) (w : World) (hs : s.size ≤ 140737488351232) :
    Calls Tryd.prog 5 #[.string s] w fun e w' => e = .returned (ansV (ansL (mailL s.data.toList) s.size)) ∧ Keeps [] w w' := by
  have hmf : ∀ (fn : Fn) (first cap : Array Value) (w : World), (Instr.makeFunc fn first cap).run Tryd.prog w = .ok (.func fn first cap) w := fun _ _ _ _ => rfl
  have hb := mailL_bound s.data.toList
  have hr := hide (fun w1 (hT : IsText w1 w.heap.size s 0) (hD : IsRd w1 (w.heap.size + 1) w.heap.size 0 0 0 0 0) => mail_any (w.heap.size + 1) w.heap.size s w1 hs hT (by omega) hD)
  have hat := hide (fun w1 (hT : IsText w1 w.heap.size s 0) (hD : IsRd w1 (w.heap.size + 1) w.heap.size 0 0 0 0 0) => at_any 14 (mailL s.data.toList) (w.heap.size + 1) w.heap.size s w1 hT (by omega) hD enters14 hb (fun w2 hk => hr.out w2 (hT.keeps hk (by simp)) (hD.keeps hk (by simp))))
  clear hr hb
  generalize ansL (mailL s.data.toList) s.size = A at *
  unfold ansV at *
  go_enter Tryd.func5, Tryd.ntmps5
  go_wp2_with (go_at_call 11; refine (new_any _ _).mono ?_; rintro e w' ⟨rfl, rfl⟩)
  refine (hat.out _ (two_fst _ _ _) (two_snd _ _ _)).mono ?_
  rintro e w1 ⟨rfl, hk1⟩
  go_wp2_with fail
  go_ret2
  exact ⟨rfl, keeps_new (((Keeps.refl [] w).alloc _).alloc _) hk1 (by simp)⟩
end Go.Proofs.YtngojdajamgabadDoor

/- Try, for a method as a value: what is read, or that it gave up and the place is what it was. -/
import Derived.Test.YtngojdajamgabadDoorPass
namespace Go.Proofs.YtngojdajamgabadDoor
open Go.RowKit



theorem cell_past {w : World} {a : Addr} (h : a.block < w.heap.size) (o : Obj) : (w.alloc o).cell? a = w.cell? a := World.cell?_of_block (Below.heap_alloc w o _ h)
theorem frozen_past {w : World} {a : Addr} (h : a.block < w.heap.size) (o : Obj) : (w.alloc o).frozen? a = w.frozen? a := World.frozen?_of_block (Below.heap_alloc w o _ h)

theorem two_fst (w : World) (o1 o2 : Obj) : ((w.alloc o1).alloc o2).heap[w.heap.size]? = some o1 := (Below.heap_alloc (w.alloc o1) o2 w.heap.size (by simp)).trans (heap_alloc_new w o1)
theorem two_snd (w : World) (o1 o2 : Obj) : ((w.alloc o1).alloc o2).heap[w.heap.size + 1]? = some o2 := by
  have := heap_alloc_new (w.alloc o1) o2
  rwa [show (w.alloc o1).heap.size = w.heap.size + 1 from by simp] at this
theorem two_size (w : World) (o1 o2 : Obj) : ((w.alloc o1).alloc o2).heap.size = w.heap.size + 2 := by simp

theorem laid57 (x y n : Value) : (#[x, y] ++ ((Array.replicate 18 undef).setIfInBounds 3 n).setIfInBounds 0 n) = #[x, y, n, undef, undef, n, undef, undef, undef, undef, undef, undef, undef, undef, undef, undef, undef, undef, undef, undef] := by kernel_rfl

set_option maxHeartbeats 400000 in
theorem catch_idle (p q : Addr) (w : World) :
    CallsD Tryd.prog 45 #[.pointer (some p), .pointer (some q)] .returning w fun e u' w' => e = .returned (.tuple #[]) ∧ u' = .returning ∧ w' = w := by
  refine callsD_of_wpS Tryd.func45 rfl fun c₀ cs hu => ?_
  apply wpS_seq
  apply wpS_region
  simp [wpOpsS, go_sem, recoverD, hu, Tryd.ntmps45, Exit.thenS]
  rw [laid57]
  refine wpS_of_wp ?_
  go_wp2
  cases c₀
  simp_all [bodyPostS, results, Tryd.results45]

theorem assert57 (w : World) : (Instr.typeAssert (.iface 61 (.agg #[])) 20 61 true).run Tryd.prog w = .ok (.tuple #[.agg #[], .bool true]) w := by kernel_rfl

set_option maxRecDepth 100000 in
set_option maxHeartbeats 400000 in
theorem catch_panicking (b : Nat) (s : ByteArray) (k j pf pt : Nat) (w : World) (hT : IsText w b s j) (hf : w.heap[pf]? = some (.cells #[.int .i64 (k : Int)] 3 (0, 0))) (ht : w.heap[pt]? = some (.cells #[.pointer (some ⟨b, 0, none⟩)] 31 (0, 0))) :
    CallsD Tryd.prog 45 #[.pointer (some ⟨pf, 0, none⟩), .pointer (some ⟨pt, 0, none⟩)] (.panicking gave) w fun e u' w' =>
      e = .returned (.tuple #[]) ∧ u' = .panicking [{ v := .iface 61 (.agg #[]), recovered := true }] ∧ IsText w' b s k ∧ Keeps [b] w w' := by
  refine callsD_of_wpS Tryd.func45 rfl fun c₀ cs hu => ?_
  unfold gave at hu
  have ct : ∀ o, (w.alloc o).cell? ⟨pt, 0, none⟩ = some (.pointer (some ⟨b, 0, none⟩)) := fun o => (cell_past (lt_of_block ht) o).trans (cell_of_one ht)
  have cf : ∀ o, (w.alloc o).cell? ⟨pf, 0, none⟩ = some (.int .i64 (k : Int)) := fun o => (cell_past (lt_of_block hf) o).trans (cell_of_one hf)
  have f1 : ∀ o, (w.alloc o).frozen? ⟨b, 1, none⟩ = false := fun o => (frozen_past hT.lt o).trans hT.free1
  have c1 : ∀ o, (w.alloc o).cell? ⟨b, 1, none⟩ = some (.int .i64 (j : Int)) := fun o => (cell_past hT.lt o).trans hT.cell1
  have hta := assert57
  apply wpS_seq
  apply wpS_region
  simp [wpOpsS, go_sem, recoverD, hu, Tryd.ntmps45, Exit.thenS]
  rw [laid57]
  clear hu
  refine wpS_of_wp ?_
  go_wp2
  exact ⟨rfl, _, rfl, .tuple #[], by simp [results, Tryd.results45], rfl, rfl, (hT.keeps ((Keeps.refl [] w).alloc _) (by simp)).set k, ((Keeps.refl [b] w).alloc _).setCell (by simp) _⟩

set_option maxRecDepth 100000 in
set_option maxHeartbeats 400000 in
/-- Try, for a method's value: K reads, or gives up; S lists what K may turn. -/
theorem try_first (K : Nat) (recv : Value) (Yes No : World → Prop) (S : List Nat) (b : Nat) (s : ByteArray) (k : Nat) (w : World) (hT : IsText w b s k) (hK : Enters K) (hb : b ∈ S) (hS : ∀ i, i ∈ S → i < w.heap.size) (hNo : ∀ w2 w3, No w2 → Keeps [b] w2 w3 → No w3)
    (hread : ∀ w1, Keeps [] w w1 → Calls Tryd.prog K #[recv] w1 fun e w2 => (e = .returned (.tuple #[]) ∧ Yes w2 ∨ e = .panicked gave ∧ No w2 ∧ ∃ j, IsText w2 b s j) ∧ Keeps S w1 w2) :
    Calls Tryd.prog 25 #[.pointer (some ⟨b, 0, none⟩), .func (.func K) #[recv] #[]] w fun e w' =>
      (e = .returned (.bool true) ∧ Yes w' ∨ e = .returned (.bool false) ∧ No w' ∧ IsText w' b s k) ∧ Keeps S w w' := by
  have hmf : ∀ (fn : Fn) (first cap : Array Value) (w : World), (Instr.makeFunc fn first cap).run Tryd.prog w = .ok (.func fn first cap) w := fun _ _ _ _ => rfl
  have hK' := hK
  unfold Enters at hK'
  have c1 : ∀ o, (w.alloc o).cell? ⟨b, 1, none⟩ = some (.int .i64 (k : Int)) := fun o => (cell_past hT.lt o).trans hT.cell1
  have hkS : ∀ w2, Keeps S ((w.alloc (.cells #[.pointer (some ⟨b, 0, none⟩)] 31)).alloc (.cells #[.int .i64 (k : Int)] 3)) w2 → Keeps S w w2 := fun w2 h => (((Keeps.refl S w).alloc _).alloc _).trans h
  go_enter_defers Tryd.func25, Tryd.ntmps25
  go_wp2_with fail
  refine (hread _ (((Keeps.refl [] w).alloc _).alloc _)).mono ?_
  rintro e w2 ⟨⟨rfl, hy⟩ | ⟨rfl, hno, j, hj⟩, hk⟩
  · go_wp2_with fail
    refine leaves_cons (f := 45) (args := #[.pointer (some ⟨w.heap.size + 1, 0, none⟩), .pointer (some ⟨w.heap.size, 0, none⟩)]) (by simp) (by simp [go_sem]) ?_
    refine (catch_idle _ _ _).mono ?_
    rintro e u' w3 ⟨rfl, rfl, rfl⟩
    exact ⟨_, results_tmp rfl _ _ _, .inl ⟨rfl, hy⟩, hkS _ hk⟩
  · go_wp2_with fail
    refine leaves_cons (f := 45) (args := #[.pointer (some ⟨w.heap.size + 1, 0, none⟩), .pointer (some ⟨w.heap.size, 0, none⟩)]) (by simp) (by simp [go_sem]) ?_
    refine (catch_panicking b s k j (w.heap.size + 1) w.heap.size _ hj ?_ ?_).mono ?_
    · rw [hk.block _ (by rw [two_size]; omega) (fun h => by have := hS _ h; omega)]
      exact two_snd _ _ _
    · rw [hk.block _ (by rw [two_size]; omega) (fun h => by have := hS _ h; omega)]
      exact two_fst _ _ _
    rintro e u' w3 ⟨rfl, rfl, hT3, hk3⟩
    exact ⟨_, results_tmp rfl _ _ _, .inr ⟨rfl, hNo _ _ hno hk3, hT3⟩, (hkS _ hk).trans (hk3.mono fun i hi _ => by simp at hi; subst hi; exact hb)⟩
end Go.Proofs.YtngojdajamgabadDoor

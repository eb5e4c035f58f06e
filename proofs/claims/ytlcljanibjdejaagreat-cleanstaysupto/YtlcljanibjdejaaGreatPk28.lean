/- Tree and Is of package clean. -/
import Derived.Test.YtlcljanibjdejaaGreatPk26
import Derived.Test.YtlcljanibjdejaaGreatPk27
namespace Go.Proofs.YtlcljanibjdejaaGreat
open Go.RowKit Go.Maps

set_option maxHeartbeats 1000000 in
theorem walkE_any (w : World) (P : Nat → Prop) (v : Value) (ns : List Nd) (h : Ns w P v ns) (hM : HasMax w) (hsz : sizeNs ns ≤ 2000000) (hV : ValNs ns) :
    Calls Tryz.prog 87 #[v, .func (.func 88) #[] #[]] w fun e w' => (isE ns = 0 ∧ e = .returned (.bool true) ∨ isE ns ≠ 0 ∧ e = .panicked (stopped (isE ns))) ∧ Keeps [] w w' := by
  have hc := hide (walkE_all (fun g => g < w.heap.size) w.heap.size hM.pos (fun _ h => h) w v ns h.lt w [] (Keeps.refl _ _) (fun _ _ => List.not_mem_nil) hM (.slice none 0 0) [] (World.ownsRow_nil _ _ _ _) (Nat.le_refl _) (by simpa using hsz) hV)
  obtain ⟨o, c, hv⟩ := h.form
  subst hv
  clear h hV
  generalize isE ns = E at *
  go_enter Tryz.func87, Tryz.ntmps87
  go_wp2_with fail
  refine hc.out.mono ?_
  rintro e w1 ⟨⟨hE, rfl⟩ | ⟨hE, rfl⟩, _, hk⟩
  · have hk' : Keeps [] w w1 := hk.mono (fun g hg _ => by simp [Value.ownBlock] at hg)
    go_wp2_with fail
    go_ret
    first | exact ⟨.inl ⟨hE, rfl⟩, hk'⟩ | exact ⟨.inl ⟨trivial, rfl⟩, hk'⟩
  · exact ⟨rfl, .inr ⟨hE, rfl⟩, hk.mono (fun g hg _ => by simp [Value.ownBlock] at hg)⟩

theorem enters86 : Enters 86 := enters_of Tryz.func86 (by kernel_rfl) (by kernel_rfl)

set_option maxHeartbeats 1000000 in
theorem is1_any (b : Nat) (w : World) (P : Nat → Prop) (v : Value) (ns : List Nd) (h : Ns w P v ns) (hb : w.heap[b]? = some (.cells #[v] 29 (0, 0))) (hM : HasMax w) (hsz : sizeNs ns ≤ 2000000) (hV : ValNs ns) :
    Calls Tryz.prog 86 #[.pointer (some ⟨b, 0, none⟩)] w fun e w' => (isE ns = 0 ∧ e = .returned (.tuple #[]) ∨ isE ns ≠ 0 ∧ e = .panicked (stopped (isE ns))) ∧ Keeps [] w w' := by
  have hc := hide (walkE_any w P v ns h hM hsz hV)
  obtain ⟨o, c, hv⟩ := h.form
  subst hv
  clear h hV
  have c0 : w.cell? ⟨b, 0, none⟩ = some (.slice o ns.length c) := cell_blk hb 0
  generalize isE ns = E at *
  go_enter Tryz.func86, Tryz.ntmps86
  go_wp2_with fail
  refine hc.out.mono ?_
  rintro e w1 ⟨⟨hE, rfl⟩ | ⟨hE, rfl⟩, hk⟩
  · go_wp2_with fail
    go_end0
    first | exact ⟨.inl ⟨hE, rfl⟩, hk⟩ | exact ⟨.inl ⟨trivial, rfl⟩, hk⟩
  · exact ⟨rfl, .inr ⟨hE, rfl⟩, hk⟩

set_option maxHeartbeats 2000000 in
theorem cleanIs_any (w : World) (P : Nat → Prop) (v : Value) (ns : List Nd) (h : Ns w P v ns) (hM : HasMax w) (hsz : sizeNs ns ≤ 2000000) (hF : FitsNs ns) (hV : ValNs ns) :
    Calls Tryz.prog 20 #[v] w fun e w' => e = .returned (.tuple #[.bool (decide (chkTree ns = 0) && decide (isE ns = 0)), .int .i64 (chkTree ns)]) ∧ Keeps [] w w' := by
  have hn := hide h
  obtain ⟨o, c, hv⟩ := h.form
  subst hv
  obtain ⟨W, hW⟩ : ∃ W, w.alloc (.cells #[.slice o ns.length c] 29) = W := ⟨_, rfl⟩
  have hkW : Keeps [] w W := by rw [← hW]; exact (Keeps.refl [] w).alloc _
  have hb : W.heap[w.heap.size]? = some (.cells #[.slice o ns.length c] 29 (0, 0)) := by rw [← hW]; exact heap_alloc_new w _
  have c0 : W.cell? ⟨w.heap.size, 0, none⟩ = some (.slice o ns.length c) := cell_blk hb 0
  have nn : ∀ g, g ∉ ([] : List Nat) := fun _ => List.not_mem_nil
  have hck := hide (treeCheck_any W P _ ns (h.keeps0 hkW) hsz hF)
  have HB := hide hb
  have hmf : ∀ (fn : Fn) (first cap : Array Value) (w : World), (Instr.makeFunc fn first cap).run Tryz.prog w = .ok (.func fn first cap) w := fun _ _ _ _ => rfl
  have hca := hide (fun (w1 : World) (hk1 : Keeps [] W w1) => caught_any 86 #[.pointer (some ⟨w.heap.size, 0, none⟩)] (fun _ => isE ns = 0) (fun x _ => isE ns ≠ 0 ∧ x ≠ 0) [] w1 enters86 (fun _ h => absurd h (nn _)) (fun _ _ _ h _ => h) (fun _ _ _ _ h _ => h)
    (fun w2 hk2 _ => (is1_any w.heap.size w2 P _ ns (((hn.out.keeps0 hkW).keeps0 hk1).keeps0 hk2) (((hk1.trans hk2).block _ (lt_of_block HB.out) (nn _)).trans HB.out) (hM.keeps ((hkW.trans hk1).trans hk2) (nn _)) hsz hV).mono (fun e w3 h => ⟨h.1.elim (fun h => .inl ⟨h.2, h.1⟩) (fun h => .inr ⟨_, h.2, h.1, h.1⟩), h.2⟩)))
  clear h hb hF hV
  generalize chkTree ns = C at *
  by_cases hC : C = 0
  · subst hC
    generalize isE ns = E at *
    go_enter Tryz.func20, Tryz.ntmps20
    go_wp2_with fail
    refine hck.out.mono ?_
    rintro e w1 ⟨rfl, hk1⟩
    clear c0
    go_wp2_with fail
    refine (hca.out w1 hk1).mono ?_
    rintro e w2 ⟨⟨rfl, hE⟩ | ⟨x, rfl, hE, hx⟩, hk2⟩
    · go_wp2_with fail
      go_ret2
      exact ⟨by simp [hE], (hkW.trans hk1).trans hk2⟩
    · have hxb : (x == 0) = false := by simpa using hx
      clear hx
      go_wp2_with fail
      go_ret2
      exact ⟨by simp [hE], (hkW.trans hk1).trans hk2⟩
  · have hCb : (C != 0) = true := by simpa using hC
    have hd : decide (C = 0) = false := by simpa using hC
    rw [hd]
    clear hca hC
    go_enter Tryz.func20, Tryz.ntmps20
    go_wp2_with fail
    refine hck.out.mono ?_
    rintro e w1 ⟨rfl, hk1⟩
    clear c0
    go_wp2_with fail
    go_ret2
    exact ⟨by simp, hkW.trans hk1⟩

/-- Why a tree can't be cleaned: 0 if it can. -/
def treeE (base : List UInt8) (ns : List Nd) : Int := if chkTree ns ≠ 0 then chkTree ns else if 3000 < base.length then 2 else 0

set_option maxHeartbeats 2000000 in
theorem cleanTree_any (base : List UInt8) (w : World) (P : Nat → Prop) (v : Value) (ns : List Nd) (h : Ns w P v ns) (hM : HasMax w) (hsz : sizeNs ns ≤ 2000000) (hF : FitsNs ns) (hV : ValNs ns) (hz : szNs ns ≤ 3000000) (hb : base.length ≤ maxLen) :
    Calls Tryz.prog 24 #[.string ⟨base.toArray⟩, v] w fun e w' => ∃ o n c, e = .returned (.tuple #[.slice o n c, .int .i64 (treeE base ns)]) ∧ Ns w' (fun g => w.heap.size ≤ g) (.slice o n c) (if treeE base ns = 0 then cleanL base ns else []) ∧ Keeps [] w w' := by
  have hck := hide (treeCheck_any w P v ns h hsz hF)
  obtain ⟨o, c, hv⟩ := h.form
  subst hv
  unfold maxLen at hb
  unfold treeE
  by_cases hC : chkTree ns = 0
  · rw [if_neg (by simpa using hC)]
    rw [hC] at hck
    by_cases h3 : 3000 < base.length
    · rw [if_pos h3]
      have hd : decide ((3000 : Int) < ((⟨base.toArray⟩ : ByteArray).size : Int)) = true := by rw [str_size]; simp; omega
      rw [str_size] at hd
      clear h hF hV hC h3
      go_enter Tryz.func24, Tryz.ntmps24
      go_wp2_with fail
      refine hck.out.mono ?_
      rintro e w1 ⟨rfl, hk1⟩
      go_wp2_with fail
      go_ret2
      exact ⟨none, 0, 0, rfl, Ns.nil _ _ none 0 (by simp [maxLen]), hk1⟩
    · rw [if_neg h3, if_pos rfl]
      have hd : decide ((3000 : Int) < ((⟨base.toArray⟩ : ByteArray).size : Int)) = false := by rw [str_size]; simp; omega
      rw [str_size] at hd
      have hcl := hide (fun (w1 : World) (hk1 : Keeps [] w w1) => cleaned_of base o ns.length c ns w1 w.heap.size hk1.size hz (fun w2 hk2 => cleanPut_all base (by omega) w.heap.size hM.pos w _ ns h.lt hV w2 (hk1.trans hk2).nil_below (hk1.trans hk2).size (hM.keeps (hk1.trans hk2) List.not_mem_nil)))
      clear h hF hV hC h3
      go_enter Tryz.func24, Tryz.ntmps24
      go_wp2_with fail
      refine hck.out.mono ?_
      rintro e w1 ⟨rfl, hk1⟩
      go_wp2_with fail
      refine (hcl.out w1 hk1).mono ?_
      rintro e w2 ⟨o2, n2, c2, rfl, hN, hk2⟩
      go_wp2_with fail
      go_ret2
      exact ⟨_, _, _, rfl, hN.mono (fun g _ hg => Nat.le_trans hk1.size hg), hk1.trans hk2⟩
  · rw [if_pos hC, if_neg hC]
    generalize chkTree ns = C at *
    have hCb : (C != 0) = true := by simpa using hC
    clear h hF hV hC
    go_enter Tryz.func24, Tryz.ntmps24
    go_wp2_with fail
    refine hck.out.mono ?_
    rintro e w1 ⟨rfl, hk1⟩
    go_wp2_with fail
    go_ret2
    exact ⟨none, 0, 0, rfl, Ns.nil _ _ none 0 (by simp [maxLen]), hk1⟩
end Go.Proofs.YtlcljanibjdejaaGreat

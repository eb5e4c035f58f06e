/- Join: joined. -/
import Derived.Test.YtaeblkmkpfklkacUrlB2
namespace Go.Proofs.Ytaeblkmkpfklkac
open Go.RowKit

theorem enters27 : Enters 27 := enters_of Try.func27 (by kernel_rfl) (by kernel_rfl)

theorem IsBld.keeps {B b : Nat} {l : List UInt8} {w w' : World} (h : IsBld B b l w) (hk : Keeps [] w w') : IsBld B b l w' := by
  rcases h with ⟨hB, v, hb, ho, hne⟩ | ⟨hB, v, hb, ho, hne⟩
  · exact .inl ⟨hB, v, by rw [hk.block b (lt_of_block hb) List.not_mem_nil]; exact hb, hk.owns ho (fun _ _ => List.not_mem_nil), hne⟩
  · exact .inr ⟨hB, v, by rw [hk.block b (lt_of_block hb) List.not_mem_nil]; exact hb, hk.owns ho (fun _ _ => List.not_mem_nil), hne⟩

theorem bld_new (w : World) : IsBld w.heap.size w.heap.size [] (w.alloc (.cells #[.pointer none, .slice none 0 0] 52)) :=
  .inl ⟨Nat.le_refl _, .slice none 0 0, heap_alloc_new _ _, ⟨rfl, .inl ⟨rfl, rfl⟩⟩, by simp [Value.ownBlock]⟩

theorem join2 (x y : List UInt8) : Lib.join [x, y] [] = x ++ y := by simp [Lib.join, List.intercalate]
theorem join1 (x : List UInt8) : Lib.join [x] [] = x := by simp [Lib.join]

/-- A part is put, of what is joined. -/
theorem put_any (has : Bool) (bk c : Nat) (xs : List ByteArray) (B b : Nat) (l F : List UInt8) (w : World) (hF : Lib.join (xs.map (·.data.toList)) [] = F) (hcells : ∀ (j : Nat) x, xs[j]? = some x → w.cell? ⟨bk, 0 + j, none⟩ = some (.string x)) (hbk : bk < w.heap.size) (n : Nat) (hn : xs.length = n) (hN : n ≤ 2) (hcap : n ≤ c)
    (h : IsBld B b l w) (hlen : l.length + F.length ≤ 1000000000) (hB : B ≤ w.heap.size) :
    Calls Try.prog 27 #[.bool has, .slice (some ⟨bk, 0, none⟩) n c, .pointer (some ⟨b, 0, none⟩)] w fun e w' => e = .returned (.tuple #[]) ∧ IsBld B b (l ++ if has = true then F else []) w' ∧ KeepsB B b w w' := by
  subst hn
  have hj := hide (Try.strings_Join bk 0 c xs ⟨#[]⟩ w hcells hbk (by omega) hcap (by
    have : (⟨#[]⟩ : ByteArray).data.toList = [] := rfl
    rw [this, hF]; omega))
  have e0 : (⟨#[]⟩ : ByteArray).data.toList = [] := rfl
  rw [e0, hF] at hj
  have H := hide h
  clear hcells hF e0 h
  cases has
  · go_enter Try.func27, Try.ntmps27
    go_wp2_with fail
    go_end0
    exact ⟨rfl, by simpa using H.out, KeepsB.refl _ _ _⟩
  · go_enter Try.func27, Try.ntmps27
    go_wp2_with fail
    refine hj.out.mono ?_
    rintro e w1 ⟨rfl, hb1⟩
    have hk1 : Keeps [] w w1 := Keeps.of_below hb1
    have h1 := H.out.keeps hk1
    go_wp2_with fail
    refine (write_all B b l F _ h1 (by omega) (by have := hk1.size; omega)).mono ?_
    rintro e w2 ⟨rfl, h2, hk2⟩
    go_wp2_with fail
    go_end0
    exact ⟨rfl, by simpa using h2, (KeepsB.of hk1).trans hk2⟩

theorem KeepsB.url {B b : Nat} {w w' : World} {q : Nat} {u : UrlT} (h : KeepsB B b w w') (hU : IsUrl w q u) (hq : q < B) (hb : q ≠ b) : IsUrl w' q u := by
  rw [IsUrl, h.block q hU.lt hb (.inl hq)]; exact hU

/-- While a link is joined. -/
structure Jo (w : World) (x b : Nat) (u : UrlT) (W : World) (l : List UInt8) : Prop where
  url : IsUrl W x u
  bld : IsBld b b l W
  keeps : Keeps [] w W
  bw : w.heap.size ≤ b
  xb : x < b
  bW : b ≤ W.heap.size

theorem Jo.put2 {w : World} {x b : Nat} {u : UrlT} {W : World} {l : List UInt8} (h : Jo w x b u W l) (has : Bool) (p q : List UInt8) (hl : l.length + (p ++ q).length ≤ 1000000000) :
    Calls Try.prog 27 #[.bool has, .slice (some ⟨W.heap.size, 0, none⟩) 2 2, .pointer (some ⟨b, 0, none⟩)] (W.alloc (.cells #[.string ⟨p.toArray⟩, .string ⟨q.toArray⟩] 9)) fun e W' => e = .returned (.tuple #[]) ∧ Jo w x b u W' (l ++ if has = true then p ++ q else []) := by
  have hk : Keeps [] W (W.alloc (.cells #[.string ⟨p.toArray⟩, .string ⟨q.toArray⟩] 9)) := (Keeps.refl [] W).alloc _
  refine (put_any has W.heap.size 2 [⟨p.toArray⟩, ⟨q.toArray⟩] b b l (p ++ q) _ (join2 p q) ?_ (by simp) 2 rfl (by omega) (by omega) (h.bld.keeps hk) hl (by have := h.bW; have := hk.size; omega)).mono ?_
  · intro j y hj
    have hb := heap_alloc_new W (.cells #[.string ⟨p.toArray⟩, .string ⟨q.toArray⟩] 9)
    rw [Nat.zero_add]
    match j, hj with
    | 0, hj => simp at hj; subst hj; rw [Lib.cell_of_heap hb]; rfl
    | 1, hj => simp at hj; subst hj; rw [Lib.cell_of_heap hb]; rfl
  · rintro e W' ⟨rfl, h1, h2⟩
    have hB := h.bW
    have hs1 := hk.size
    have hs2 := h2.size
    exact ⟨rfl, h2.url (h.url.keeps hk (by simp)) h.xb (by have := h.xb; omega), h1, KeepsB.nil (h.keeps.trans hk) h2 h.bw (Nat.le_refl _), h.bw, h.xb, by omega⟩

theorem Jo.put1 {w : World} {x b : Nat} {u : UrlT} {W : World} {l : List UInt8} (h : Jo w x b u W l) (has : Bool) (p : List UInt8) (hl : l.length + p.length ≤ 1000000000) :
    Calls Try.prog 27 #[.bool has, .slice (some ⟨W.heap.size, 0, none⟩) 1 1, .pointer (some ⟨b, 0, none⟩)] (W.alloc (.cells #[.string ⟨p.toArray⟩] 9)) fun e W' => e = .returned (.tuple #[]) ∧ Jo w x b u W' (l ++ if has = true then p else []) := by
  have hk : Keeps [] W (W.alloc (.cells #[.string ⟨p.toArray⟩] 9)) := (Keeps.refl [] W).alloc _
  refine (put_any has W.heap.size 1 [⟨p.toArray⟩] b b l p _ (join1 p) ?_ (by simp) 1 rfl (by omega) (by omega) (h.bld.keeps hk) hl (by have := h.bW; have := hk.size; omega)).mono ?_
  · intro j y hj
    have hb := heap_alloc_new W (.cells #[.string ⟨p.toArray⟩] 9)
    rw [Nat.zero_add]
    match j, hj with
    | 0, hj => simp at hj; subst hj; rw [Lib.cell_of_heap hb]; rfl
  · rintro e W' ⟨rfl, h1, h2⟩
    have hB := h.bW
    have hs1 := hk.size
    have hs2 := h2.size
    exact ⟨rfl, h2.url (h.url.keeps hk (by simp)) h.xb (by have := h.xb; omega), h1, KeepsB.nil (h.keeps.trans hk) h2 h.bw (Nat.le_refl _), h.bw, h.xb, by omega⟩

theorem if_len (c : Bool) (l : List UInt8) : (if c = true then l else []).length ≤ l.length := by split <;> simp

set_option maxRecDepth 4000 in
set_option maxHeartbeats 4000000 in
theorem joined_any (u : UrlT) (w : World) (hl : u.scheme.length ≤ 20000 ∧ u.authority.length ≤ 20000 ∧ u.path.length ≤ 20000 ∧ u.query.length ≤ 20000 ∧ u.fragment.length ≤ 20000) :
    Calls Try.prog 13 #[urlV u] w fun e w' => e = .returned (.string ⟨(joinL u).toArray⟩) ∧ Keeps [] w w' := by
  have hmf : ∀ (fn : Fn) (first cap : Array Value) (w : World), (Instr.makeFunc fn first cap).run Try.prog w = .ok (.func fn first cap) w := fun _ _ _ _ => rfl
  have hE := enters27
  unfold Enters at hE
  unfold urlV urlCells
  obtain ⟨A, hA⟩ : ∃ A, joinL u = A := ⟨_, rfl⟩
  rw [hA]
  have HA : Hid (A = [] ++ (if u.hs = true then u.scheme ++ [58] else []) ++ (if u.ha = true then [47, 47] ++ u.authority else []) ++ u.path ++ (if u.hq = true then [63] ++ u.query else []) ++ (if u.hf = true then [35] ++ u.fragment else [])) := by
    rw [← hA]; unfold joinL; simp [Hid]
  clear hA
  have l1 := if_len u.hs (u.scheme ++ [58])
  have l2 := if_len u.ha ([47, 47] ++ u.authority)
  have l4 := if_len u.hq ([63] ++ u.query)
  simp only [List.length_append, List.length_cons, List.length_nil] at l1 l2 l4
  obtain ⟨a1, h1⟩ : ∃ a, (if u.hs = true then u.scheme ++ [58] else []) = a := ⟨_, rfl⟩
  obtain ⟨a2, h2⟩ : ∃ a, (if u.ha = true then [47, 47] ++ u.authority else []) = a := ⟨_, rfl⟩
  obtain ⟨a4, h4⟩ : ∃ a, (if u.hq = true then [63] ++ u.query else []) = a := ⟨_, rfl⟩
  obtain ⟨a5, h5⟩ : ∃ a, (if u.hf = true then [35] ++ u.fragment else []) = a := ⟨_, rfl⟩
  rw [h1, h2, h4, h5] at HA
  rw [h1] at l1
  rw [h2] at l2
  rw [h4] at l4
  have H1 := hide h1
  have H2 := hide h2
  have H4 := hide h4
  have H5 := hide h5
  clear h1 h2 h4 h5
  go_enter Try.func13, Try.ntmps13
  go_wp2_with fail
  obtain ⟨W0, hW0⟩ : ∃ W0, W0 = ((w.alloc (.cells #[.string ⟨u.scheme.toArray⟩, .string ⟨u.authority.toArray⟩, .string ⟨u.path.toArray⟩, .string ⟨u.query.toArray⟩, .string ⟨u.fragment.toArray⟩, .bool u.hs, .bool u.ha, .bool u.hq, .bool u.hf] 23)).alloc (.cells #[.pointer none, .slice none 0 0] 52)) := ⟨_, rfl⟩
  have hsz : w.heap.size + 1 + 1 = W0.heap.size := by rw [hW0]; simp
  rw [← hW0, hsz]
  have j0 : Jo w w.heap.size (w.heap.size + 1) u W0 [] := by
    subst hW0
    have hk0 : Keeps [] w (w.alloc (.cells #[.string ⟨u.scheme.toArray⟩, .string ⟨u.authority.toArray⟩, .string ⟨u.path.toArray⟩, .string ⟨u.query.toArray⟩, .string ⟨u.fragment.toArray⟩, .bool u.hs, .bool u.ha, .bool u.hq, .bool u.hf] 23)) := (Keeps.refl [] w).alloc _
    have hb := bld_new (w.alloc (.cells #[.string ⟨u.scheme.toArray⟩, .string ⟨u.authority.toArray⟩, .string ⟨u.path.toArray⟩, .string ⟨u.query.toArray⟩, .string ⟨u.fragment.toArray⟩, .bool u.hs, .bool u.ha, .bool u.hq, .bool u.hf] 23))
    have e1 : (w.alloc (.cells #[.string ⟨u.scheme.toArray⟩, .string ⟨u.authority.toArray⟩, .string ⟨u.path.toArray⟩, .string ⟨u.query.toArray⟩, .string ⟨u.fragment.toArray⟩, .bool u.hs, .bool u.ha, .bool u.hq, .bool u.hf] 23)).heap.size = w.heap.size + 1 := by simp
    rw [e1] at hb
    refine ⟨?_, hb, hk0.alloc _, by omega, by omega, by simp⟩
    unfold IsUrl
    rw [Below.heap_alloc _ _ _ (by simp)]
    exact heap_alloc_new _ _
  clear hW0 hsz
  generalize w.heap.size + 1 = b at *
  generalize hx : w.heap.size = x at *
  clear hx
  refine (j0.put2 u.hs u.scheme [58] (by simp; omega)).mono ?_
  rintro e W1 ⟨rfl, j1⟩
  rw [H1.out] at j1
  have c6 : W1.cell? ⟨x, 6, none⟩ = some (.bool u.ha) := j1.url.cell 6
  have c1 : W1.cell? ⟨x, 1, none⟩ = some (.string ⟨u.authority.toArray⟩) := j1.url.cell 1
  go_wp2_with fail
  refine (j1.put2 u.ha [47, 47] u.authority (by simp; omega)).mono ?_
  rintro e W2 ⟨rfl, j2⟩
  rw [H2.out] at j2
  have c2 : W2.cell? ⟨x, 2, none⟩ = some (.string ⟨u.path.toArray⟩) := j2.url.cell 2
  go_wp2_with fail
  refine (j2.put1 true u.path (by simp; omega)).mono ?_
  rintro e W3 ⟨rfl, j3⟩
  rw [if_pos rfl] at j3
  have c7 : W3.cell? ⟨x, 7, none⟩ = some (.bool u.hq) := j3.url.cell 7
  have c3 : W3.cell? ⟨x, 3, none⟩ = some (.string ⟨u.query.toArray⟩) := j3.url.cell 3
  go_wp2_with fail
  refine (j3.put2 u.hq [63] u.query (by simp; omega)).mono ?_
  rintro e W4 ⟨rfl, j4⟩
  rw [H4.out] at j4
  have c8 : W4.cell? ⟨x, 8, none⟩ = some (.bool u.hf) := j4.url.cell 8
  have c4 : W4.cell? ⟨x, 4, none⟩ = some (.string ⟨u.fragment.toArray⟩) := j4.url.cell 4
  go_wp2_with fail
  refine (j4.put2 u.hf [35] u.fragment (by simp; omega)).mono ?_
  rintro e W5 ⟨rfl, j5⟩
  rw [H5.out, ← HA.out] at j5
  go_wp2_with fail
  refine (Try.Builder_String_any b b A W5 j5.bld j5.bW).mono ?_
  rintro e W6 ⟨rfl, hb6⟩
  have hk6 : Keeps [] w W6 := by
    have h6 : Below w.heap.size W5 W6 := ⟨hb6.os, hb6.tape, hb6.output, hb6.size, fun k hk => hb6.block k (by have := j5.bw; omega)⟩
    exact ⟨h6.os.trans j5.keeps.os, h6.tape.trans j5.keeps.tape, h6.output.trans j5.keeps.output, Nat.le_trans j5.keeps.size h6.size, fun k hk _ => (h6.block k hk).trans (j5.keeps.block k hk List.not_mem_nil)⟩
  go_wp2_with fail
  go_ret
  exact ⟨by simp, hk6⟩
end Go.Proofs.Ytaeblkmkpfklkac

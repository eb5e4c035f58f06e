/- put, openTag, closeTag. -/
import Derived.Test.YtngojdajamgababGreatEndText
namespace Go.Proofs.YtngojdajamgababGreat
open Go.RowKit Go.Maps

/-- Four cells of a token lie in a block. -/
def IsTok (w : World) (g : Nat) (p : Tok × Value) : Prop := w.heap[g]? = some (.cells #[.int .i64 p.1.kind, .string ⟨p.1.name.toArray⟩, p.2, .string ⟨p.1.text.toArray⟩] 48 (0, 0))
theorem IsTok.cell (j : Nat) {w : World} {g : Nat} {p : Tok × Value} (h : IsTok w g p) : w.cell? ⟨g, j, none⟩ = (#[.int .i64 p.1.kind, .string ⟨p.1.name.toArray⟩, p.2, .string ⟨p.1.text.toArray⟩] : Array Value)[j]? := by
  unfold World.cell?
  simp only
  rw [show w.heap[g]? = _ from h]
  simp
theorem IsTok.lt {w : World} {g : Nat} {p : Tok × Value} (h : IsTok w g p) : g < w.heap.size := lt_of_block h
theorem IsTok.keeps {S : List Nat} {w w' : World} {g : Nat} {p : Tok × Value} (h : IsTok w g p) (hk : Keeps S w w') (hg : g ∉ S) : IsTok w' g p := by
  rw [IsTok, hk.block g h.lt hg]; exact h

theorem HasAttrs.touch {w w' : World} {B r b : Nat} {rawv outv : Value} {raw : List UInt8} {l : List (Tok × Value)} (h : Rd w B r b rawv outv raw l) {p : Tok × Value} (hp : HasAttrs w B p) (hk : Keeps (touch r rawv outv) w w') : HasAttrs w' B p := by
  refine hk.owns hp (fun g hg hm => ?_)
  simp [Go.Proofs.YtngojdajamgababGreat.touch] at hm
  rcases hm with rfl | hm | hm
  · exact block_ne hp h.reader.blk (by decide) hg
  · exact rows_apart hp h.raw (by decide) hg hm
  · exact rows_apart hp h.out (by decide) hg hm

theorem one_cells {p : Tok × Value} {o : Option Addr} {n c : Nat} (h : p.2 = .slice o n c) : ∀ u ∈ tokCells p, u.oneCell' = true := by
  intro u hu
  simp [tokCells, h] at hu
  rcases hu with rfl | rfl | rfl | rfl <;> rfl

theorem HasAttrs.form {w : World} {B : Nat} {p : Tok × Value} (hp : HasAttrs w B p) : ∃ o n c, p.2 = .slice o n c := by
  obtain ⟨o, c, h⟩ := row_form hp
  exact ⟨o, _, c, h⟩

set_option maxRecDepth 4000 in
set_option maxHeartbeats 4000000 in
theorem put_tok (B r b : Nat) (rawv outv : Value) (raw : List UInt8) (l : List (Tok × Value)) (w : World) (h : Rd w B r b rawv outv raw l) (hB : B ≤ w.heap.size) (hraw : raw.length ≤ 3000) (hl : l.length ≤ 90000)
    (kd : Int) (nm tx : List UInt8) (at' : List Pair) (o : Option Addr) (n c : Nat) (hp : HasAttrs w B (⟨kd, nm, at', tx⟩, .slice o n c)) :
    Calls Tryz.prog 91 #[.pointer (some ⟨r, 0, none⟩), .agg #[.int .i64 kd, .string ⟨nm.toArray⟩, .slice o n c, .string ⟨tx.toArray⟩]] w fun e w' =>
      e = .returned (.tuple #[]) ∧ ∃ rawv' outv', Rd w' B r b rawv' outv' [] (l ++ endToks raw ++ [(⟨kd, nm, at', tx⟩, .slice o n c)]) ∧ Keeps (touch r rawv outv) w w' := by
  have hel : (l ++ endToks raw).length ≤ 100000 := by
    unfold endToks
    split <;> simp <;> omega
  obtain ⟨i0, hi, hz0, hz1, hz2⟩ := info_parts info43
  have ha : Keeps [] w (w.alloc (.cells #[.int .i64 kd, .string ⟨nm.toArray⟩, .slice o n c, .string ⟨tx.toArray⟩] 48)) := (Keeps.refl [] w).alloc _
  have hbx : IsTok (w.alloc (.cells #[.int .i64 kd, .string ⟨nm.toArray⟩, .slice o n c, .string ⟨tx.toArray⟩] 48)) w.heap.size (⟨kd, nm, at', tx⟩, .slice o n c) := heap_alloc_new w _
  have het := hide (endText_any B r b rawv outv raw l _ (h.keepsNil ha) (Nat.le_trans hB ha.size) hraw (by omega))
  have hpa : HasAttrs (w.alloc (.cells #[.int .i64 kd, .string ⟨nm.toArray⟩, .slice o n c, .string ⟨tx.toArray⟩] 48)) B (⟨kd, nm, at', tx⟩, .slice o n c) := ha.owns hp (fun _ _ => List.not_mem_nil)
  have hpt := hide (fun w' (hk : Keeps (touch r rawv outv) (w.alloc (.cells #[.int .i64 kd, .string ⟨nm.toArray⟩, .slice o n c, .string ⟨tx.toArray⟩] 48)) w') => hpa.touch (h.keepsNil ha) hk)
  have htl := h.touch_lt
  generalize hll : l ++ endToks raw = ll at *
  clear hll hpa
  go_enter Tryz.func91, Tryz.ntmps91
  go_wp2_with fail
  refine het.out.mono ?_
  rintro e w1 ⟨rfl, rawv', outv', h1, hk1, hw1⟩
  have hp1 := hpt.out _ hk1
  have hbx1 := hbx.keeps hk1 (fun hm => by have := htl _ hm; omega)
  have hw1' : Within w (touch r rawv' outv') (touch r rawv outv) := fun i hi hlt => hw1 i hi (by have := ha.size; omega)
  have hka : Keeps (touch r rawv outv) w w1 := (ha.to (by simp)).trans hk1
  have hB1 : B ≤ w1.heap.size := Nat.le_trans (Nat.le_trans hB ha.size) hk1.size
  clear het hpt hk1 hw1 hbx ha
  have c2 := h1.reader.cell2
  have c2a : ∀ o, (w1.alloc o).cell? ⟨r, 2, none⟩ = some outv' := fun o => (cell_past (a := ⟨r, 2, none⟩) h1.reader.lt o).trans c2
  have b0 := hbx1.cell 0
  have b1 := hbx1.cell 1
  have b2 := hbx1.cell 2
  have b3 := hbx1.cell 3
  simp at b0 b1 b2 b3
  go_upto_region 2 with fail
  go_region_law (refine step_own_at rfl _ _ 22 rfl B 48 i0 _ 4 64 Tryz.underlying22 hi hz0 hz1 hz2 (by kernel_rfl) (by decide) outv' ll.length (outCells ll) rfl ((h1.out.alloc _).drew) ⟨w1.heap.size, 0, none⟩ 1 1 (tokCells (⟨kd, nm, at', tx⟩, .slice o n c)) rfl rfl (lit_cells w1 _ 48) (one_cells rfl) (by unfold maxLen; omega) (by omega) (Nat.le_trans hB1 (by simp)) ?_; intro v3 w3 ho3 hg3 hw3; obtain ⟨o3, c3, rfl⟩ := row_form ho3; have hk3 : Keeps outv'.ownBlock.toList w1 w3 := (((Keeps.refl _ w1).alloc _).drew).grown hg3 (fun i e => .inl (by simp [e])); have hR3 := h1.outReader hk3; have d3 := hR3.cell2; have f3 := hR3.free)
  all_goals go_wp2
  all_goals go_end0
  all_goals exact ⟨rfl, _, _, (h1.grow hk3 ho3 (hk3.owns hp1 (fun g hg hm => rows_apart hp1 h1.out (by decide) hg (by simpa using hm)))).1, hka.within (h1.grow hk3 ho3 (hk3.owns hp1 (fun g hg hm => rows_apart hp1 h1.out (by decide) hg (by simpa using hm)))).2 hw1'⟩
end Go.Proofs.YtngojdajamgababGreat

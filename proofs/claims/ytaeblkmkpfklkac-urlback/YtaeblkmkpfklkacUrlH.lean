/- A link in the light of a base: resolved. -/
import Derived.Test.YtaeblkmkpfklkacUrlG
namespace Go.Proofs.Ytaeblkmkpfklkac
open Go.RowKit

structure Rs (w : World) (x y r : Nat) (b : UrlT) (W : World) (u : UrlT) : Prop where
  base : IsUrl W x b
  url : IsUrl W y u
  res : IsUrl W r noUrl
  keeps : Keeps [] w W
  xw : w.heap.size ≤ x
  yw : w.heap.size ≤ y
  rw : w.heap.size ≤ r
  ne1 : x ≠ y
  ne2 : y ≠ r
  ne3 : x ≠ r

theorem Rs.move {w : World} {x y r : Nat} {b : UrlT} {W W' : World} {u : UrlT} (h : Rs w x y r b W u) (hk : Keeps [] W W') : Rs w x y r b W' u :=
  ⟨h.base.keeps hk (by simp), h.url.keeps hk (by simp), h.res.keeps hk (by simp), h.keeps.trans hk, h.xw, h.yw, h.rw, h.ne1, h.ne2, h.ne3⟩
theorem Rs.put {w : World} {x y r : Nat} {b : UrlT} {W : World} {u u' : UrlT} (h : Rs w x y r b W u) {j : Nat} {v : Value} (hU : IsUrl (W.setCell ⟨y, j, none⟩ v) y u') : Rs w x y r b (W.setCell ⟨y, j, none⟩ v) u' := by
  have hk : Keeps [y] W (W.setCell ⟨y, j, none⟩ v) := (Keeps.refl [y] W).setCell (p := ⟨y, j, none⟩) (by simp) v
  exact ⟨h.base.keeps hk (by simpa using h.ne1), hU, h.res.keeps hk (by simpa using h.ne2.symm), h.keeps.setCell (.inr h.yw) v, h.xw, h.yw, h.rw, h.ne1, h.ne2, h.ne3⟩

theorem end15 {tmps : Array Value} {W w : World} {r : Nat} {u A : UrlT} (hp : tmps.getD 4 undef = .pointer (some ⟨r, 0, none⟩)) (hU : IsUrl W r u) (hA : A = u) (hk : Keeps [] w W) :
    bodyPost Try.prog Try.f15 (fun e w' => e = .returned (urlV A) ∧ Keeps [] w w') Exit.ret { tmps := tmps, defers := [] } W := by
  subst hA
  exact ⟨rfl, _, results_cell_row (P := Try.prog) rfl tmps W r 23 (urlCells A) (0, 0) _ hp hU Try.underlying23 rfl (info23.trans rfl), rfl, hk⟩

theorem Keeps.off {S : List Nat} {w w' : World} (h : Keeps S w.drew w') : Keeps S w w' := ⟨h.os, h.tape, h.output, h.size, h.block⟩
theorem Keeps.off2 {S : List Nat} {w w' : World} (h : Keeps S w.drew.drew w') : Keeps S w w' := ⟨h.os, h.tape, h.output, h.size, h.block⟩

theorem merged_len (b : UrlT) (p : List UInt8) : (mergedL b p).length ≤ b.path.length + p.length + 1 := by
  unfold mergedL
  split
  · omega
  split
  · omega
  split
  · simp
    try omega
  · have := upSl_le b.path
    rw [List.length_append]
    omega

theorem start3 (w : World) (b u : UrlT) : Rs w w.heap.size (w.heap.size + 1) (w.heap.size + 1 + 1) b (((w.alloc (.cells #[.string ⟨b.scheme.toArray⟩, .string ⟨b.authority.toArray⟩, .string ⟨b.path.toArray⟩, .string ⟨b.query.toArray⟩, .string ⟨b.fragment.toArray⟩, .bool b.hs, .bool b.ha, .bool b.hq, .bool b.hf] 23)).alloc (.cells #[.string ⟨u.scheme.toArray⟩, .string ⟨u.authority.toArray⟩, .string ⟨u.path.toArray⟩, .string ⟨u.query.toArray⟩, .string ⟨u.fragment.toArray⟩, .bool u.hs, .bool u.ha, .bool u.hq, .bool u.hf] 23)).alloc (.cells #[.string ⟨#[]⟩, .string ⟨#[]⟩, .string ⟨#[]⟩, .string ⟨#[]⟩, .string ⟨#[]⟩, .bool false, .bool false, .bool false, .bool false] 23)) u := by
  refine ⟨?_, ?_, ?_, (((Keeps.refl [] w).alloc _).alloc _).alloc _, by omega, by omega, by omega, by omega, by omega, by omega⟩
  · unfold IsUrl
    rw [Below.heap_alloc _ _ _ (by simp; omega), Below.heap_alloc _ _ _ (by simp)]
    exact heap_new_at _ _ rfl
  · unfold IsUrl
    rw [Below.heap_alloc _ _ _ (by simp)]
    exact heap_new_at _ _ (by simp)
  · exact heap_new_at _ _ (by simp)

set_option maxRecDepth 4000 in
set_option maxHeartbeats 40000000 in
theorem resolved_any (b u : UrlT) (w : World) (hb : b.path.length ≤ 3000) (hu : u.path.length ≤ 3000) :
    Calls Try.prog 15 #[urlV b, urlV u] w fun e w' => e = .returned (urlV (resL b u)) ∧ Keeps [] w w' := by
  obtain ⟨A, hA⟩ : ∃ A, resL b u = A := ⟨_, rfl⟩
  rw [hA]
  have HA := hide hA
  clear hA
  have ST := hide (fun u => start3 w b u)
  have MG := hide (fun (p : List UInt8) (w : World) (h : p.length ≤ 3000) => merged_any b ⟨p.toArray⟩ w hb h)
  obtain ⟨bs, ba, bp, bq, bf, bhs, bha, bhq, bhf⟩ := b
  obtain ⟨us, ua, up, uq, uf, uhs, uha, uhq, uhf⟩ := u
  simp only at hb hu
  unfold urlV urlCells
  cases uhs
  · cases uha
    · by_cases hp : up = []
      · have hpe : up.isEmpty = true := by simpa using hp
        cases uhq
        · have HX : Hid (A = ⟨bs, ba, dotsL (mergedL ⟨bs, ba, bp, bq, bf, bhs, bha, bhq, bhf⟩ up), bq, uf, true, bha, bhq, uhf⟩) := by rw [← HA.out, hp]; exact rfl
          clear hp HA
          obtain ⟨R, hR⟩ : ∃ R, dotsL (mergedL ⟨bs, ba, bp, bq, bf, bhs, bha, bhq, bhf⟩ up) = R := ⟨_, rfl⟩
          have HR := hide hR
          clear hR
          have hml := merged_len ⟨bs, ba, bp, bq, bf, bhs, bha, bhq, bhf⟩ up
          simp only at hml
          have WD := hide (fun w => withoutDots_any ⟨(mergedL ⟨bs, ba, bp, bq, bf, bhs, bha, bhq, bhf⟩ up).toArray⟩ w (by rw [str_size]; omega))
          rw [str_list, HR.out] at WD
          have MM := hide (fun w => MG.out up w hu)
          rw [str_list] at MM
          generalize mergedL ⟨bs, ba, bp, bq, bf, bhs, bha, bhq, bhf⟩ up = M at *
          unfold urlV urlCells at MM
          clear MG hml
          go_enter Try.func15, Try.ntmps15
          go_wp2_with fail
          go_region
          go_wp2_with fail
          go_region
          go_wp2_with fail
          refine (MM.out _).mono ?_
          rintro e W1 ⟨rfl, hk1⟩
          have g1 : Rs w w.heap.size (w.heap.size + 1) (w.heap.size + 1 + 1) ⟨bs, ba, bp, bq, bf, bhs, bha, bhq, bhf⟩ W1 ⟨bs, ba, up, bq, uf, true, bha, bhq, uhf⟩ := (ST.out ⟨bs, ba, up, bq, uf, true, bha, bhq, uhf⟩).move (Keeps.off2 hk1)
          clear hk1
          go_wp2_with fail
          refine (WD.out _).mono ?_
          rintro e W2 ⟨rfl, hk2⟩
          have g2 := g1.move hk2
          have d2 : W2.cell? ⟨w.heap.size + 1, 2, none⟩ = some (.string ⟨up.toArray⟩) := g2.url.cell 2
          have f2 := g2.url.free 2
          have gF : Rs w w.heap.size (w.heap.size + 1) (w.heap.size + 1 + 1) ⟨bs, ba, bp, bq, bf, bhs, bha, bhq, bhf⟩ (W2.setCell ⟨w.heap.size + 1, 2, none⟩ (.string ⟨R.toArray⟩)) ⟨bs, ba, R, bq, uf, true, bha, bhq, uhf⟩ := g2.put (g2.url.set2 R)
          have u0 : (W2.setCell ⟨w.heap.size + 1, 2, none⟩ (.string ⟨R.toArray⟩)).cell? ⟨w.heap.size + 1, 0, none⟩ = some (.string ⟨(bs : List UInt8).toArray⟩) := gF.url.cell 0
          have r0 : (W2.setCell ⟨w.heap.size + 1, 2, none⟩ (.string ⟨R.toArray⟩)).cell? ⟨w.heap.size + 1 + 1, 0, none⟩ = some (.string ⟨([] : List UInt8).toArray⟩) := gF.res.cell 0
          have z0 := gF.res.free 0
          have u1 : (W2.setCell ⟨w.heap.size + 1, 2, none⟩ (.string ⟨R.toArray⟩)).cell? ⟨w.heap.size + 1, 1, none⟩ = some (.string ⟨(ba : List UInt8).toArray⟩) := gF.url.cell 1
          have r1 : (W2.setCell ⟨w.heap.size + 1, 2, none⟩ (.string ⟨R.toArray⟩)).cell? ⟨w.heap.size + 1 + 1, 1, none⟩ = some (.string ⟨([] : List UInt8).toArray⟩) := gF.res.cell 1
          have z1 := gF.res.free 1
          have u2 : (W2.setCell ⟨w.heap.size + 1, 2, none⟩ (.string ⟨R.toArray⟩)).cell? ⟨w.heap.size + 1, 2, none⟩ = some (.string ⟨(R : List UInt8).toArray⟩) := gF.url.cell 2
          have r2 : (W2.setCell ⟨w.heap.size + 1, 2, none⟩ (.string ⟨R.toArray⟩)).cell? ⟨w.heap.size + 1 + 1, 2, none⟩ = some (.string ⟨([] : List UInt8).toArray⟩) := gF.res.cell 2
          have z2 := gF.res.free 2
          have u3 : (W2.setCell ⟨w.heap.size + 1, 2, none⟩ (.string ⟨R.toArray⟩)).cell? ⟨w.heap.size + 1, 3, none⟩ = some (.string ⟨(bq : List UInt8).toArray⟩) := gF.url.cell 3
          have r3 : (W2.setCell ⟨w.heap.size + 1, 2, none⟩ (.string ⟨R.toArray⟩)).cell? ⟨w.heap.size + 1 + 1, 3, none⟩ = some (.string ⟨([] : List UInt8).toArray⟩) := gF.res.cell 3
          have z3 := gF.res.free 3
          have u4 : (W2.setCell ⟨w.heap.size + 1, 2, none⟩ (.string ⟨R.toArray⟩)).cell? ⟨w.heap.size + 1, 4, none⟩ = some (.string ⟨(uf : List UInt8).toArray⟩) := gF.url.cell 4
          have r4 : (W2.setCell ⟨w.heap.size + 1, 2, none⟩ (.string ⟨R.toArray⟩)).cell? ⟨w.heap.size + 1 + 1, 4, none⟩ = some (.string ⟨([] : List UInt8).toArray⟩) := gF.res.cell 4
          have z4 := gF.res.free 4
          have u5 : (W2.setCell ⟨w.heap.size + 1, 2, none⟩ (.string ⟨R.toArray⟩)).cell? ⟨w.heap.size + 1, 5, none⟩ = some (.bool true) := gF.url.cell 5
          have r5 : (W2.setCell ⟨w.heap.size + 1, 2, none⟩ (.string ⟨R.toArray⟩)).cell? ⟨w.heap.size + 1 + 1, 5, none⟩ = some (.bool false) := gF.res.cell 5
          have z5 := gF.res.free 5
          have u6 : (W2.setCell ⟨w.heap.size + 1, 2, none⟩ (.string ⟨R.toArray⟩)).cell? ⟨w.heap.size + 1, 6, none⟩ = some (.bool bha) := gF.url.cell 6
          have r6 : (W2.setCell ⟨w.heap.size + 1, 2, none⟩ (.string ⟨R.toArray⟩)).cell? ⟨w.heap.size + 1 + 1, 6, none⟩ = some (.bool false) := gF.res.cell 6
          have z6 := gF.res.free 6
          have u7 : (W2.setCell ⟨w.heap.size + 1, 2, none⟩ (.string ⟨R.toArray⟩)).cell? ⟨w.heap.size + 1, 7, none⟩ = some (.bool bhq) := gF.url.cell 7
          have r7 : (W2.setCell ⟨w.heap.size + 1, 2, none⟩ (.string ⟨R.toArray⟩)).cell? ⟨w.heap.size + 1 + 1, 7, none⟩ = some (.bool false) := gF.res.cell 7
          have z7 := gF.res.free 7
          have u8 : (W2.setCell ⟨w.heap.size + 1, 2, none⟩ (.string ⟨R.toArray⟩)).cell? ⟨w.heap.size + 1, 8, none⟩ = some (.bool uhf) := gF.url.cell 8
          have r8 : (W2.setCell ⟨w.heap.size + 1, 2, none⟩ (.string ⟨R.toArray⟩)).cell? ⟨w.heap.size + 1 + 1, 8, none⟩ = some (.bool false) := gF.res.cell 8
          have z8 := gF.res.free 8
          go_wp2_with fail
          exact end15 rfl (((((((((gF.res.set0 bs).set1 ba).set2 R).set3 bq).set4 uf).set5 true).set6 bha).set7 bhq).set8 uhf) (HX.out.trans (by rw [HR.out])) (keeps9 gF.keeps gF.rw _ _ _ _ _ _ _ _ _)
        · have HX : Hid (A = ⟨bs, ba, dotsL (mergedL ⟨bs, ba, bp, bq, bf, bhs, bha, bhq, bhf⟩ up), uq, uf, true, bha, true, uhf⟩) := by rw [← HA.out, hp]; exact rfl
          clear hp HA
          obtain ⟨R, hR⟩ : ∃ R, dotsL (mergedL ⟨bs, ba, bp, bq, bf, bhs, bha, bhq, bhf⟩ up) = R := ⟨_, rfl⟩
          have HR := hide hR
          clear hR
          have hml := merged_len ⟨bs, ba, bp, bq, bf, bhs, bha, bhq, bhf⟩ up
          simp only at hml
          have WD := hide (fun w => withoutDots_any ⟨(mergedL ⟨bs, ba, bp, bq, bf, bhs, bha, bhq, bhf⟩ up).toArray⟩ w (by rw [str_size]; omega))
          rw [str_list, HR.out] at WD
          have MM := hide (fun w => MG.out up w hu)
          rw [str_list] at MM
          generalize mergedL ⟨bs, ba, bp, bq, bf, bhs, bha, bhq, bhf⟩ up = M at *
          unfold urlV urlCells at MM
          clear MG hml
          go_enter Try.func15, Try.ntmps15
          go_wp2_with fail
          go_region
          go_wp2_with fail
          refine (MM.out _).mono ?_
          rintro e W1 ⟨rfl, hk1⟩
          have g1 : Rs w w.heap.size (w.heap.size + 1) (w.heap.size + 1 + 1) ⟨bs, ba, bp, bq, bf, bhs, bha, bhq, bhf⟩ W1 ⟨bs, ba, up, uq, uf, true, bha, true, uhf⟩ := (ST.out ⟨bs, ba, up, uq, uf, true, bha, true, uhf⟩).move (Keeps.off hk1)
          clear hk1
          go_wp2_with fail
          refine (WD.out _).mono ?_
          rintro e W2 ⟨rfl, hk2⟩
          have g2 := g1.move hk2
          have d2 : W2.cell? ⟨w.heap.size + 1, 2, none⟩ = some (.string ⟨up.toArray⟩) := g2.url.cell 2
          have f2 := g2.url.free 2
          have gF : Rs w w.heap.size (w.heap.size + 1) (w.heap.size + 1 + 1) ⟨bs, ba, bp, bq, bf, bhs, bha, bhq, bhf⟩ (W2.setCell ⟨w.heap.size + 1, 2, none⟩ (.string ⟨R.toArray⟩)) ⟨bs, ba, R, uq, uf, true, bha, true, uhf⟩ := g2.put (g2.url.set2 R)
          have u0 : (W2.setCell ⟨w.heap.size + 1, 2, none⟩ (.string ⟨R.toArray⟩)).cell? ⟨w.heap.size + 1, 0, none⟩ = some (.string ⟨(bs : List UInt8).toArray⟩) := gF.url.cell 0
          have r0 : (W2.setCell ⟨w.heap.size + 1, 2, none⟩ (.string ⟨R.toArray⟩)).cell? ⟨w.heap.size + 1 + 1, 0, none⟩ = some (.string ⟨([] : List UInt8).toArray⟩) := gF.res.cell 0
          have z0 := gF.res.free 0
          have u1 : (W2.setCell ⟨w.heap.size + 1, 2, none⟩ (.string ⟨R.toArray⟩)).cell? ⟨w.heap.size + 1, 1, none⟩ = some (.string ⟨(ba : List UInt8).toArray⟩) := gF.url.cell 1
          have r1 : (W2.setCell ⟨w.heap.size + 1, 2, none⟩ (.string ⟨R.toArray⟩)).cell? ⟨w.heap.size + 1 + 1, 1, none⟩ = some (.string ⟨([] : List UInt8).toArray⟩) := gF.res.cell 1
          have z1 := gF.res.free 1
          have u2 : (W2.setCell ⟨w.heap.size + 1, 2, none⟩ (.string ⟨R.toArray⟩)).cell? ⟨w.heap.size + 1, 2, none⟩ = some (.string ⟨(R : List UInt8).toArray⟩) := gF.url.cell 2
          have r2 : (W2.setCell ⟨w.heap.size + 1, 2, none⟩ (.string ⟨R.toArray⟩)).cell? ⟨w.heap.size + 1 + 1, 2, none⟩ = some (.string ⟨([] : List UInt8).toArray⟩) := gF.res.cell 2
          have z2 := gF.res.free 2
          have u3 : (W2.setCell ⟨w.heap.size + 1, 2, none⟩ (.string ⟨R.toArray⟩)).cell? ⟨w.heap.size + 1, 3, none⟩ = some (.string ⟨(uq : List UInt8).toArray⟩) := gF.url.cell 3
          have r3 : (W2.setCell ⟨w.heap.size + 1, 2, none⟩ (.string ⟨R.toArray⟩)).cell? ⟨w.heap.size + 1 + 1, 3, none⟩ = some (.string ⟨([] : List UInt8).toArray⟩) := gF.res.cell 3
          have z3 := gF.res.free 3
          have u4 : (W2.setCell ⟨w.heap.size + 1, 2, none⟩ (.string ⟨R.toArray⟩)).cell? ⟨w.heap.size + 1, 4, none⟩ = some (.string ⟨(uf : List UInt8).toArray⟩) := gF.url.cell 4
          have r4 : (W2.setCell ⟨w.heap.size + 1, 2, none⟩ (.string ⟨R.toArray⟩)).cell? ⟨w.heap.size + 1 + 1, 4, none⟩ = some (.string ⟨([] : List UInt8).toArray⟩) := gF.res.cell 4
          have z4 := gF.res.free 4
          have u5 : (W2.setCell ⟨w.heap.size + 1, 2, none⟩ (.string ⟨R.toArray⟩)).cell? ⟨w.heap.size + 1, 5, none⟩ = some (.bool true) := gF.url.cell 5
          have r5 : (W2.setCell ⟨w.heap.size + 1, 2, none⟩ (.string ⟨R.toArray⟩)).cell? ⟨w.heap.size + 1 + 1, 5, none⟩ = some (.bool false) := gF.res.cell 5
          have z5 := gF.res.free 5
          have u6 : (W2.setCell ⟨w.heap.size + 1, 2, none⟩ (.string ⟨R.toArray⟩)).cell? ⟨w.heap.size + 1, 6, none⟩ = some (.bool bha) := gF.url.cell 6
          have r6 : (W2.setCell ⟨w.heap.size + 1, 2, none⟩ (.string ⟨R.toArray⟩)).cell? ⟨w.heap.size + 1 + 1, 6, none⟩ = some (.bool false) := gF.res.cell 6
          have z6 := gF.res.free 6
          have u7 : (W2.setCell ⟨w.heap.size + 1, 2, none⟩ (.string ⟨R.toArray⟩)).cell? ⟨w.heap.size + 1, 7, none⟩ = some (.bool true) := gF.url.cell 7
          have r7 : (W2.setCell ⟨w.heap.size + 1, 2, none⟩ (.string ⟨R.toArray⟩)).cell? ⟨w.heap.size + 1 + 1, 7, none⟩ = some (.bool false) := gF.res.cell 7
          have z7 := gF.res.free 7
          have u8 : (W2.setCell ⟨w.heap.size + 1, 2, none⟩ (.string ⟨R.toArray⟩)).cell? ⟨w.heap.size + 1, 8, none⟩ = some (.bool uhf) := gF.url.cell 8
          have r8 : (W2.setCell ⟨w.heap.size + 1, 2, none⟩ (.string ⟨R.toArray⟩)).cell? ⟨w.heap.size + 1 + 1, 8, none⟩ = some (.bool false) := gF.res.cell 8
          have z8 := gF.res.free 8
          go_wp2_with fail
          exact end15 rfl (((((((((gF.res.set0 bs).set1 ba).set2 R).set3 uq).set4 uf).set5 true).set6 bha).set7 true).set8 uhf) (HX.out.trans (by rw [HR.out])) (keeps9 gF.keeps gF.rw _ _ _ _ _ _ _ _ _)
      · have hpe : up.isEmpty = false := by simpa using hp
        have HX : Hid (A = ⟨bs, ba, dotsL (mergedL ⟨bs, ba, bp, bq, bf, bhs, bha, bhq, bhf⟩ up), uq, uf, true, bha, uhq, uhf⟩) := by rw [← HA.out]; unfold resL; simp [hp, Hid]
        clear hp HA
        obtain ⟨R, hR⟩ : ∃ R, dotsL (mergedL ⟨bs, ba, bp, bq, bf, bhs, bha, bhq, bhf⟩ up) = R := ⟨_, rfl⟩
        have HR := hide hR
        clear hR
        have hml := merged_len ⟨bs, ba, bp, bq, bf, bhs, bha, bhq, bhf⟩ up
        simp only at hml
        have WD := hide (fun w => withoutDots_any ⟨(mergedL ⟨bs, ba, bp, bq, bf, bhs, bha, bhq, bhf⟩ up).toArray⟩ w (by rw [str_size]; omega))
        rw [str_list, HR.out] at WD
        have MM := hide (fun w => MG.out up w hu)
        rw [str_list] at MM
        generalize mergedL ⟨bs, ba, bp, bq, bf, bhs, bha, bhq, bhf⟩ up = M at *
        unfold urlV urlCells at MM
        clear MG hml
        go_enter Try.func15, Try.ntmps15
        go_wp2_with fail
        go_region
        go_wp2_with fail
        refine (MM.out _).mono ?_
        rintro e W1 ⟨rfl, hk1⟩
        have g1 : Rs w w.heap.size (w.heap.size + 1) (w.heap.size + 1 + 1) ⟨bs, ba, bp, bq, bf, bhs, bha, bhq, bhf⟩ W1 ⟨bs, ba, up, uq, uf, true, bha, uhq, uhf⟩ := (ST.out ⟨bs, ba, up, uq, uf, true, bha, uhq, uhf⟩).move (Keeps.off hk1)
        clear hk1
        go_wp2_with fail
        refine (WD.out _).mono ?_
        rintro e W2 ⟨rfl, hk2⟩
        have g2 := g1.move hk2
        have d2 : W2.cell? ⟨w.heap.size + 1, 2, none⟩ = some (.string ⟨up.toArray⟩) := g2.url.cell 2
        have f2 := g2.url.free 2
        have gF : Rs w w.heap.size (w.heap.size + 1) (w.heap.size + 1 + 1) ⟨bs, ba, bp, bq, bf, bhs, bha, bhq, bhf⟩ (W2.setCell ⟨w.heap.size + 1, 2, none⟩ (.string ⟨R.toArray⟩)) ⟨bs, ba, R, uq, uf, true, bha, uhq, uhf⟩ := g2.put (g2.url.set2 R)
        have u0 : (W2.setCell ⟨w.heap.size + 1, 2, none⟩ (.string ⟨R.toArray⟩)).cell? ⟨w.heap.size + 1, 0, none⟩ = some (.string ⟨(bs : List UInt8).toArray⟩) := gF.url.cell 0
        have r0 : (W2.setCell ⟨w.heap.size + 1, 2, none⟩ (.string ⟨R.toArray⟩)).cell? ⟨w.heap.size + 1 + 1, 0, none⟩ = some (.string ⟨([] : List UInt8).toArray⟩) := gF.res.cell 0
        have z0 := gF.res.free 0
        have u1 : (W2.setCell ⟨w.heap.size + 1, 2, none⟩ (.string ⟨R.toArray⟩)).cell? ⟨w.heap.size + 1, 1, none⟩ = some (.string ⟨(ba : List UInt8).toArray⟩) := gF.url.cell 1
        have r1 : (W2.setCell ⟨w.heap.size + 1, 2, none⟩ (.string ⟨R.toArray⟩)).cell? ⟨w.heap.size + 1 + 1, 1, none⟩ = some (.string ⟨([] : List UInt8).toArray⟩) := gF.res.cell 1
        have z1 := gF.res.free 1
        have u2 : (W2.setCell ⟨w.heap.size + 1, 2, none⟩ (.string ⟨R.toArray⟩)).cell? ⟨w.heap.size + 1, 2, none⟩ = some (.string ⟨(R : List UInt8).toArray⟩) := gF.url.cell 2
        have r2 : (W2.setCell ⟨w.heap.size + 1, 2, none⟩ (.string ⟨R.toArray⟩)).cell? ⟨w.heap.size + 1 + 1, 2, none⟩ = some (.string ⟨([] : List UInt8).toArray⟩) := gF.res.cell 2
        have z2 := gF.res.free 2
        have u3 : (W2.setCell ⟨w.heap.size + 1, 2, none⟩ (.string ⟨R.toArray⟩)).cell? ⟨w.heap.size + 1, 3, none⟩ = some (.string ⟨(uq : List UInt8).toArray⟩) := gF.url.cell 3
        have r3 : (W2.setCell ⟨w.heap.size + 1, 2, none⟩ (.string ⟨R.toArray⟩)).cell? ⟨w.heap.size + 1 + 1, 3, none⟩ = some (.string ⟨([] : List UInt8).toArray⟩) := gF.res.cell 3
        have z3 := gF.res.free 3
        have u4 : (W2.setCell ⟨w.heap.size + 1, 2, none⟩ (.string ⟨R.toArray⟩)).cell? ⟨w.heap.size + 1, 4, none⟩ = some (.string ⟨(uf : List UInt8).toArray⟩) := gF.url.cell 4
        have r4 : (W2.setCell ⟨w.heap.size + 1, 2, none⟩ (.string ⟨R.toArray⟩)).cell? ⟨w.heap.size + 1 + 1, 4, none⟩ = some (.string ⟨([] : List UInt8).toArray⟩) := gF.res.cell 4
        have z4 := gF.res.free 4
        have u5 : (W2.setCell ⟨w.heap.size + 1, 2, none⟩ (.string ⟨R.toArray⟩)).cell? ⟨w.heap.size + 1, 5, none⟩ = some (.bool true) := gF.url.cell 5
        have r5 : (W2.setCell ⟨w.heap.size + 1, 2, none⟩ (.string ⟨R.toArray⟩)).cell? ⟨w.heap.size + 1 + 1, 5, none⟩ = some (.bool false) := gF.res.cell 5
        have z5 := gF.res.free 5
        have u6 : (W2.setCell ⟨w.heap.size + 1, 2, none⟩ (.string ⟨R.toArray⟩)).cell? ⟨w.heap.size + 1, 6, none⟩ = some (.bool bha) := gF.url.cell 6
        have r6 : (W2.setCell ⟨w.heap.size + 1, 2, none⟩ (.string ⟨R.toArray⟩)).cell? ⟨w.heap.size + 1 + 1, 6, none⟩ = some (.bool false) := gF.res.cell 6
        have z6 := gF.res.free 6
        have u7 : (W2.setCell ⟨w.heap.size + 1, 2, none⟩ (.string ⟨R.toArray⟩)).cell? ⟨w.heap.size + 1, 7, none⟩ = some (.bool uhq) := gF.url.cell 7
        have r7 : (W2.setCell ⟨w.heap.size + 1, 2, none⟩ (.string ⟨R.toArray⟩)).cell? ⟨w.heap.size + 1 + 1, 7, none⟩ = some (.bool false) := gF.res.cell 7
        have z7 := gF.res.free 7
        have u8 : (W2.setCell ⟨w.heap.size + 1, 2, none⟩ (.string ⟨R.toArray⟩)).cell? ⟨w.heap.size + 1, 8, none⟩ = some (.bool uhf) := gF.url.cell 8
        have r8 : (W2.setCell ⟨w.heap.size + 1, 2, none⟩ (.string ⟨R.toArray⟩)).cell? ⟨w.heap.size + 1 + 1, 8, none⟩ = some (.bool false) := gF.res.cell 8
        have z8 := gF.res.free 8
        go_wp2_with fail
        exact end15 rfl (((((((((gF.res.set0 bs).set1 ba).set2 R).set3 uq).set4 uf).set5 true).set6 bha).set7 uhq).set8 uhf) (HX.out.trans (by rw [HR.out])) (keeps9 gF.keeps gF.rw _ _ _ _ _ _ _ _ _)
    · skip
      have HX : Hid (A = ⟨bs, ua, dotsL up, uq, uf, true, true, uhq, uhf⟩) := HA.out.symm
      have WD := hide (fun w => withoutDots_any ⟨up.toArray⟩ w (by rw [str_size]; omega))
      rw [str_list] at WD
      generalize dotsL up = R at *
      clear MG HA
      go_enter Try.func15, Try.ntmps15
      go_wp2_with fail
      refine (WD.out _).mono ?_
      rintro e W1 ⟨rfl, hk1⟩
      have g1 : Rs w w.heap.size (w.heap.size + 1) (w.heap.size + 1 + 1) ⟨bs, ba, bp, bq, bf, bhs, bha, bhq, bhf⟩ W1 ⟨bs, ua, up, uq, uf, true, true, uhq, uhf⟩ := (ST.out ⟨bs, ua, up, uq, uf, true, true, uhq, uhf⟩).move hk1
      clear hk1
      have d2 : W1.cell? ⟨w.heap.size + 1, 2, none⟩ = some (.string ⟨up.toArray⟩) := g1.url.cell 2
      have f2 := g1.url.free 2
      have gF : Rs w w.heap.size (w.heap.size + 1) (w.heap.size + 1 + 1) ⟨bs, ba, bp, bq, bf, bhs, bha, bhq, bhf⟩ (W1.setCell ⟨w.heap.size + 1, 2, none⟩ (.string ⟨R.toArray⟩)) ⟨bs, ua, R, uq, uf, true, true, uhq, uhf⟩ := g1.put (g1.url.set2 R)
      have u0 : (W1.setCell ⟨w.heap.size + 1, 2, none⟩ (.string ⟨R.toArray⟩)).cell? ⟨w.heap.size + 1, 0, none⟩ = some (.string ⟨(bs : List UInt8).toArray⟩) := gF.url.cell 0
      have r0 : (W1.setCell ⟨w.heap.size + 1, 2, none⟩ (.string ⟨R.toArray⟩)).cell? ⟨w.heap.size + 1 + 1, 0, none⟩ = some (.string ⟨([] : List UInt8).toArray⟩) := gF.res.cell 0
      have z0 := gF.res.free 0
      have u1 : (W1.setCell ⟨w.heap.size + 1, 2, none⟩ (.string ⟨R.toArray⟩)).cell? ⟨w.heap.size + 1, 1, none⟩ = some (.string ⟨(ua : List UInt8).toArray⟩) := gF.url.cell 1
      have r1 : (W1.setCell ⟨w.heap.size + 1, 2, none⟩ (.string ⟨R.toArray⟩)).cell? ⟨w.heap.size + 1 + 1, 1, none⟩ = some (.string ⟨([] : List UInt8).toArray⟩) := gF.res.cell 1
      have z1 := gF.res.free 1
      have u2 : (W1.setCell ⟨w.heap.size + 1, 2, none⟩ (.string ⟨R.toArray⟩)).cell? ⟨w.heap.size + 1, 2, none⟩ = some (.string ⟨(R : List UInt8).toArray⟩) := gF.url.cell 2
      have r2 : (W1.setCell ⟨w.heap.size + 1, 2, none⟩ (.string ⟨R.toArray⟩)).cell? ⟨w.heap.size + 1 + 1, 2, none⟩ = some (.string ⟨([] : List UInt8).toArray⟩) := gF.res.cell 2
      have z2 := gF.res.free 2
      have u3 : (W1.setCell ⟨w.heap.size + 1, 2, none⟩ (.string ⟨R.toArray⟩)).cell? ⟨w.heap.size + 1, 3, none⟩ = some (.string ⟨(uq : List UInt8).toArray⟩) := gF.url.cell 3
      have r3 : (W1.setCell ⟨w.heap.size + 1, 2, none⟩ (.string ⟨R.toArray⟩)).cell? ⟨w.heap.size + 1 + 1, 3, none⟩ = some (.string ⟨([] : List UInt8).toArray⟩) := gF.res.cell 3
      have z3 := gF.res.free 3
      have u4 : (W1.setCell ⟨w.heap.size + 1, 2, none⟩ (.string ⟨R.toArray⟩)).cell? ⟨w.heap.size + 1, 4, none⟩ = some (.string ⟨(uf : List UInt8).toArray⟩) := gF.url.cell 4
      have r4 : (W1.setCell ⟨w.heap.size + 1, 2, none⟩ (.string ⟨R.toArray⟩)).cell? ⟨w.heap.size + 1 + 1, 4, none⟩ = some (.string ⟨([] : List UInt8).toArray⟩) := gF.res.cell 4
      have z4 := gF.res.free 4
      have u5 : (W1.setCell ⟨w.heap.size + 1, 2, none⟩ (.string ⟨R.toArray⟩)).cell? ⟨w.heap.size + 1, 5, none⟩ = some (.bool true) := gF.url.cell 5
      have r5 : (W1.setCell ⟨w.heap.size + 1, 2, none⟩ (.string ⟨R.toArray⟩)).cell? ⟨w.heap.size + 1 + 1, 5, none⟩ = some (.bool false) := gF.res.cell 5
      have z5 := gF.res.free 5
      have u6 : (W1.setCell ⟨w.heap.size + 1, 2, none⟩ (.string ⟨R.toArray⟩)).cell? ⟨w.heap.size + 1, 6, none⟩ = some (.bool true) := gF.url.cell 6
      have r6 : (W1.setCell ⟨w.heap.size + 1, 2, none⟩ (.string ⟨R.toArray⟩)).cell? ⟨w.heap.size + 1 + 1, 6, none⟩ = some (.bool false) := gF.res.cell 6
      have z6 := gF.res.free 6
      have u7 : (W1.setCell ⟨w.heap.size + 1, 2, none⟩ (.string ⟨R.toArray⟩)).cell? ⟨w.heap.size + 1, 7, none⟩ = some (.bool uhq) := gF.url.cell 7
      have r7 : (W1.setCell ⟨w.heap.size + 1, 2, none⟩ (.string ⟨R.toArray⟩)).cell? ⟨w.heap.size + 1 + 1, 7, none⟩ = some (.bool false) := gF.res.cell 7
      have z7 := gF.res.free 7
      have u8 : (W1.setCell ⟨w.heap.size + 1, 2, none⟩ (.string ⟨R.toArray⟩)).cell? ⟨w.heap.size + 1, 8, none⟩ = some (.bool uhf) := gF.url.cell 8
      have r8 : (W1.setCell ⟨w.heap.size + 1, 2, none⟩ (.string ⟨R.toArray⟩)).cell? ⟨w.heap.size + 1 + 1, 8, none⟩ = some (.bool false) := gF.res.cell 8
      have z8 := gF.res.free 8
      go_wp2_with fail
      exact end15 rfl (((((((((gF.res.set0 bs).set1 ua).set2 R).set3 uq).set4 uf).set5 true).set6 true).set7 uhq).set8 uhf) (HX.out) (keeps9 gF.keeps gF.rw _ _ _ _ _ _ _ _ _)
  · skip
    have HX : Hid (A = ⟨us, ua, dotsL up, uq, uf, true, uha, uhq, uhf⟩) := HA.out.symm
    have WD := hide (fun w => withoutDots_any ⟨up.toArray⟩ w (by rw [str_size]; omega))
    rw [str_list] at WD
    generalize dotsL up = R at *
    clear MG HA
    go_enter Try.func15, Try.ntmps15
    go_wp2_with fail
    refine (WD.out _).mono ?_
    rintro e W1 ⟨rfl, hk1⟩
    have g1 : Rs w w.heap.size (w.heap.size + 1) (w.heap.size + 1 + 1) ⟨bs, ba, bp, bq, bf, bhs, bha, bhq, bhf⟩ W1 ⟨us, ua, up, uq, uf, true, uha, uhq, uhf⟩ := (ST.out ⟨us, ua, up, uq, uf, true, uha, uhq, uhf⟩).move hk1
    clear hk1
    have d2 : W1.cell? ⟨w.heap.size + 1, 2, none⟩ = some (.string ⟨up.toArray⟩) := g1.url.cell 2
    have f2 := g1.url.free 2
    have gF : Rs w w.heap.size (w.heap.size + 1) (w.heap.size + 1 + 1) ⟨bs, ba, bp, bq, bf, bhs, bha, bhq, bhf⟩ (W1.setCell ⟨w.heap.size + 1, 2, none⟩ (.string ⟨R.toArray⟩)) ⟨us, ua, R, uq, uf, true, uha, uhq, uhf⟩ := g1.put (g1.url.set2 R)
    have u0 : (W1.setCell ⟨w.heap.size + 1, 2, none⟩ (.string ⟨R.toArray⟩)).cell? ⟨w.heap.size + 1, 0, none⟩ = some (.string ⟨(us : List UInt8).toArray⟩) := gF.url.cell 0
    have r0 : (W1.setCell ⟨w.heap.size + 1, 2, none⟩ (.string ⟨R.toArray⟩)).cell? ⟨w.heap.size + 1 + 1, 0, none⟩ = some (.string ⟨([] : List UInt8).toArray⟩) := gF.res.cell 0
    have z0 := gF.res.free 0
    have u1 : (W1.setCell ⟨w.heap.size + 1, 2, none⟩ (.string ⟨R.toArray⟩)).cell? ⟨w.heap.size + 1, 1, none⟩ = some (.string ⟨(ua : List UInt8).toArray⟩) := gF.url.cell 1
    have r1 : (W1.setCell ⟨w.heap.size + 1, 2, none⟩ (.string ⟨R.toArray⟩)).cell? ⟨w.heap.size + 1 + 1, 1, none⟩ = some (.string ⟨([] : List UInt8).toArray⟩) := gF.res.cell 1
    have z1 := gF.res.free 1
    have u2 : (W1.setCell ⟨w.heap.size + 1, 2, none⟩ (.string ⟨R.toArray⟩)).cell? ⟨w.heap.size + 1, 2, none⟩ = some (.string ⟨(R : List UInt8).toArray⟩) := gF.url.cell 2
    have r2 : (W1.setCell ⟨w.heap.size + 1, 2, none⟩ (.string ⟨R.toArray⟩)).cell? ⟨w.heap.size + 1 + 1, 2, none⟩ = some (.string ⟨([] : List UInt8).toArray⟩) := gF.res.cell 2
    have z2 := gF.res.free 2
    have u3 : (W1.setCell ⟨w.heap.size + 1, 2, none⟩ (.string ⟨R.toArray⟩)).cell? ⟨w.heap.size + 1, 3, none⟩ = some (.string ⟨(uq : List UInt8).toArray⟩) := gF.url.cell 3
    have r3 : (W1.setCell ⟨w.heap.size + 1, 2, none⟩ (.string ⟨R.toArray⟩)).cell? ⟨w.heap.size + 1 + 1, 3, none⟩ = some (.string ⟨([] : List UInt8).toArray⟩) := gF.res.cell 3
    have z3 := gF.res.free 3
    have u4 : (W1.setCell ⟨w.heap.size + 1, 2, none⟩ (.string ⟨R.toArray⟩)).cell? ⟨w.heap.size + 1, 4, none⟩ = some (.string ⟨(uf : List UInt8).toArray⟩) := gF.url.cell 4
    have r4 : (W1.setCell ⟨w.heap.size + 1, 2, none⟩ (.string ⟨R.toArray⟩)).cell? ⟨w.heap.size + 1 + 1, 4, none⟩ = some (.string ⟨([] : List UInt8).toArray⟩) := gF.res.cell 4
    have z4 := gF.res.free 4
    have u5 : (W1.setCell ⟨w.heap.size + 1, 2, none⟩ (.string ⟨R.toArray⟩)).cell? ⟨w.heap.size + 1, 5, none⟩ = some (.bool true) := gF.url.cell 5
    have r5 : (W1.setCell ⟨w.heap.size + 1, 2, none⟩ (.string ⟨R.toArray⟩)).cell? ⟨w.heap.size + 1 + 1, 5, none⟩ = some (.bool false) := gF.res.cell 5
    have z5 := gF.res.free 5
    have u6 : (W1.setCell ⟨w.heap.size + 1, 2, none⟩ (.string ⟨R.toArray⟩)).cell? ⟨w.heap.size + 1, 6, none⟩ = some (.bool uha) := gF.url.cell 6
    have r6 : (W1.setCell ⟨w.heap.size + 1, 2, none⟩ (.string ⟨R.toArray⟩)).cell? ⟨w.heap.size + 1 + 1, 6, none⟩ = some (.bool false) := gF.res.cell 6
    have z6 := gF.res.free 6
    have u7 : (W1.setCell ⟨w.heap.size + 1, 2, none⟩ (.string ⟨R.toArray⟩)).cell? ⟨w.heap.size + 1, 7, none⟩ = some (.bool uhq) := gF.url.cell 7
    have r7 : (W1.setCell ⟨w.heap.size + 1, 2, none⟩ (.string ⟨R.toArray⟩)).cell? ⟨w.heap.size + 1 + 1, 7, none⟩ = some (.bool false) := gF.res.cell 7
    have z7 := gF.res.free 7
    have u8 : (W1.setCell ⟨w.heap.size + 1, 2, none⟩ (.string ⟨R.toArray⟩)).cell? ⟨w.heap.size + 1, 8, none⟩ = some (.bool uhf) := gF.url.cell 8
    have r8 : (W1.setCell ⟨w.heap.size + 1, 2, none⟩ (.string ⟨R.toArray⟩)).cell? ⟨w.heap.size + 1 + 1, 8, none⟩ = some (.bool false) := gF.res.cell 8
    have z8 := gF.res.free 8
    go_wp2_with fail
    exact end15 rfl (((((((((gF.res.set0 us).set1 ua).set2 R).set3 uq).set4 uf).set5 true).set6 uha).set7 uhq).set8 uhf) (HX.out) (keeps9 gF.keeps gF.rw _ _ _ _ _ _ _ _ _)
end Go.Proofs.Ytaeblkmkpfklkac

/- Strict trees: kids of an element, and elements whatever is in them. Strict trees: elements whatever is in them, a document, Read. Strict trees: Read. Strict trees: Read. -/
import Derived.Test.YtlcljanibjdejaaGreatXb10
namespace Go.Proofs.YtlcljanibjdejaaGreat
open Go.RowKit Go.Maps
theorem KSt.same {w wr w' : World} {r b : Nat} {s : ByteArray} {R : Rx (List Nd)} {d : Nat} {acc : Lst} {l : List UInt8} {T : List Nat} {f : Nat} (h : KSt w wr r b s R d acc l T f) (hk : Keeps [b] wr w') (hb : b < w.heap.size) (hX : Xr w' r b s l) : KSt w w' r b s R d acc l T f :=
  ⟨h.ls.past hk (fun g hg => by simp at hg; omega), hX, h.kp.trans hk, h.wt, h.fl, h.eq⟩
theorem KSt.nil {w wr w' : World} {r b : Nat} {s : ByteArray} {R : Rx (List Nd)} {d : Nat} {acc : Lst} {l : List UInt8} {T : List Nat} {f : Nat} (h : KSt w wr r b s R d acc l T f) (hk : Keeps [] wr w') : KSt w w' r b s R d acc l T f :=
  ⟨h.ls.keepsNil hk, h.xr.keeps0 hk, h.kp.trans (hk.to (by simp)), h.wt, h.fl, h.eq⟩
set_option maxRecDepth 4000 in
set_option maxHeartbeats 16000000 in
theorem kids259 (r b : Nat) (s : ByteArray) (hs : s.size ≤ 3000) (hb0 : b ≠ 0) (F d : Nat) (hd : d ≤ 8)
    (hel : ∀ (g : Nat) (l : List UInt8) (w : World), g < F → 2 * l.length < g → Xr w r b s l → HasMax w → Calls Tryz.prog 187 #[.pointer (some ⟨r, 0, none⟩), .int .i64 ((d : Int) + 1)] w fun e w' => Gives (elementX g (d + 1) l) (ElOut w r b s) e w' ∧ Keeps [b] w w')
    (l : List UInt8) (w : World) (h : Xr w r b s l) (hM : HasMax w) (hf : 2 * l.length + 1 < F) :
    Calls Tryz.prog 259 #[.pointer (some ⟨r, 0, none⟩), .int .i64 d] w fun e w' => Gives (kidsX F d ⟨[], []⟩ l) (KidsOut w r b s) e w' ∧ Keeps [b] w w' := by
  have hbl := h.tx.lt
  have hrl := h.lt
  have hll : l.length ≤ 3000 := Nat.le_trans h.tx.len hs
  have hm0 := hide (fun (w1 : World) (hk : Keeps [b] w w1) => hM.keeps hk (by simpa using hb0.symm))
  obtain ⟨R, hR⟩ : ∃ R, kidsX F d ⟨[], []⟩ l = R := ⟨_, rfl⟩
  rw [hR]
  have hst : KSt w (w.alloc (.cells #[.slice none 0 0, .slice none 0 0] 199)) r b s R d ⟨[], []⟩ l (touchL w.heap.size (.slice none 0 0) (.slice none 0 0)) F :=
    ⟨start_ls w hM.pos, h.keeps0 ((Keeps.refl [] w).alloc _), (Keeps.refl [b] w).alloc _, by simp [Lst.weight]; omega, hf, hR⟩
  have HST := hide hst
  have HEL := hide hel
  have hbgA := hide (fun (l' : List UInt8) (w1 : World) (hT : Tx w1 b s l') => txBegins b s l' [60, 47] w1 hT)
  have hltA := hide (fun (l' : List UInt8) (w1 : World) (hT : Tx w1 b s l') => txBegins b s l' [60] w1 hT)
  clear hR h hM hst hel hf
  go_enter Tryz.func259, Tryz.ntmps259
  go_wp2_with fail
  go_loopw [17] (fun _ wr => ∃ (acc : Lst) (l' : List UInt8) (T : List Nat) (f : Nat), f ≤ F ∧ Hid (KSt w wr r b s R d acc l' T f)) (fun _ wr => left b s wr)
  case atStart => exact ⟨_, _, _, _, Nat.le_refl _, HST.out⟩
  case round =>
    obtain ⟨acc, l', T, f, hfF, hS⟩ := hrel
    obtain ⟨wo, hwo⟩ : ∃ wo, wo = wr := ⟨_, rfl⟩
    subst hwo
    clear HST
    cases f with
    | zero => have := hS.out.fl; omega
    | succ f =>
      have hleft := hide hS.out.xr.tx.left
      have hfl := hS.out.fl
      have hl3 : l'.length ≤ 3000 := Nat.le_trans hS.out.xr.tx.len hs
      have hbg := hide (hbgA.out l' wo hS.out.xr.tx)
      have hdn := hide (fun w1 hT => txDone b s l' w1 hT)
      have hre := hide (fun w1 (hX1 : Xr w1 r b s l') hM1 => remark254 r b s l' w1 hs hX1 hM1 hb0)
      have hcd := hide (fun w1 hT => txPassed b s l' cdata w1 hs hT)
      have hlt := hide (hltA.out l')
      have c0 := hS.out.xr.cell
      clear hbgA hltA
      cases hn : ([60, 47] : List UInt8).isPrefixOf l'
      · rw [hn] at hbg
        have HN := hide hn
        cases l' with
        | nil =>
          have hpc : pieceX [] = .over (.error 1) := rfl
          have HR := hide (hS.out.stop hn (.inl hpc))
          clear hn hfl
          simp only [List.isEmpty_nil] at hdn
          go_wp2_with fail
          refine (hbg.out).mono ?_
          rintro e w1 ⟨rfl, n_w1, hn_w1⟩
          have HS_w1 := hide (hS.out.nil (show Keeps [] wo w1 from by rw [hn_w1]; exact (Keeps.refl [] _).drewN _))
          have c_w1 := HS_w1.out.xr.cell
          clear hn_w1
          go_wp2_with fail
          refine (hdn.out w1 HS_w1.out.xr.tx).mono ?_
          rintro e w2 ⟨rfl, n_w2, hn_w2⟩
          have HS_w2 := hide (HS_w1.out.nil (show Keeps [] w1 w2 from by rw [hn_w2]; exact (Keeps.refl [] _).drewN _))
          have c_w2 := HS_w2.out.xr.cell
          clear hn_w2
          go_wp2_with fail
          refine (with_any _ _).mono ?_
          rintro e w3 ⟨rfl, rfl⟩
          exact ⟨rfl, .inr ⟨1, HR.out, rfl⟩, HS_w2.out.kp⟩

        | cons x0 l0 =>
          simp only [List.isEmpty_cons] at hdn
          generalize hl' : (x0 :: l0 : List UInt8) = l' at *
          have hpx : pieceX l' = match remX l' with | some (.error e) => .over (.error e) | some (.ok (_, r)) => .over (.ok r) | none => if cdata.isPrefixOf l' = true then .said (toX [93, 93, 62] (l'.drop 9)) else if [60].isPrefixOf l' = true then .kid else .said (strictX (l'.takeWhile noLt) (l'.dropWhile noLt)) := by subst hl'; rfl
          clear hl'
          cases hrx : remX l' with
          | some x =>
            rw [hrx] at hpx
            clear hn hcd hlt
            cases x with
            | error k =>
              have hpc : pieceX l' = .over (.error k) := hpx
              have HR := hide (hS.out.stop HN.out (.inl hpc))
              clear hpx hpc
              go_wp2_with fail
              refine (hbg.out).mono ?_
              rintro e w1 ⟨rfl, n_w1, hn_w1⟩
              have HS_w1 := hide (hS.out.nil (show Keeps [] wo w1 from by rw [hn_w1]; exact (Keeps.refl [] _).drewN _))
              have c_w1 := HS_w1.out.xr.cell
              clear hn_w1
              go_wp2_with fail
              refine (hdn.out w1 HS_w1.out.xr.tx).mono ?_
              rintro e w2 ⟨rfl, n_w2, hn_w2⟩
              have HS_w2 := hide (HS_w1.out.nil (show Keeps [] w1 w2 from by rw [hn_w2]; exact (Keeps.refl [] _).drewN _))
              have c_w2 := HS_w2.out.xr.cell
              clear hn_w2
              go_wp2_with fail
              refine (hre.out w2 HS_w2.out.xr (hm0.out _ HS_w2.out.kp)).mono ?_
              rintro e w3 ⟨hro, hk3⟩
              unfold RemOut at hro
              rw [hrx] at hro
              rcases hro with ⟨_, h9, _⟩ | ⟨k2, h9, rfl⟩
              case inl => cases h9
              cases h9
              exact ⟨rfl, .inr ⟨k, HR.out, rfl⟩, HS_w2.out.kp.trans hk3⟩

            | ok p =>
              obtain ⟨t, l2⟩ := p
              have hpc : pieceX l' = .over (.ok l2) := hpx
              have hpl := pieceX_over hpc
              clear hpx
              go_wp2_with fail
              refine (hbg.out).mono ?_
              rintro e w1 ⟨rfl, n_w1, hn_w1⟩
              have HS_w1 := hide (hS.out.nil (show Keeps [] wo w1 from by rw [hn_w1]; exact (Keeps.refl [] _).drewN _))
              have c_w1 := HS_w1.out.xr.cell
              clear hn_w1
              go_wp2_with fail
              refine (hdn.out w1 HS_w1.out.xr.tx).mono ?_
              rintro e w2 ⟨rfl, n_w2, hn_w2⟩
              have HS_w2 := hide (HS_w1.out.nil (show Keeps [] w1 w2 from by rw [hn_w2]; exact (Keeps.refl [] _).drewN _))
              have c_w2 := HS_w2.out.xr.cell
              clear hn_w2
              go_wp2_with fail
              refine (hre.out w2 HS_w2.out.xr (hm0.out _ HS_w2.out.kp)).mono ?_
              rintro e w3 ⟨hro, hk3⟩
              unfold RemOut at hro
              rw [hrx] at hro
              rcases hro with ⟨_, h9, rfl, hX3⟩ | ⟨k2, h9, _⟩
              case inr => cases h9
              cases h9
              simp only at hX3
              have HS3 := hide (HS_w2.out.over hbl hpc HN.out hX3 hk3)
              have hms : left b s w3 < left b s wo := by rw [HS3.out.xr.tx.left, hleft.out]; omega
              have HMS := hide hms
              clear hms hk3 hX3 hrx hpc
              go_wp2_with fail
              exact ⟨⟨acc, l2, T, f, by omega, HS3.out⟩, HMS.out⟩

          | none =>
            rw [hrx] at hpx
            simp only at hpx
            cases hcx : cdata.isPrefixOf l'
            · rw [hcx] at hpx hcd
              simp only [Bool.false_eq_true, if_false] at hpx hcd
              cases hlx : ([60] : List UInt8).isPrefixOf l'
              · rw [hlx] at hpx hlt
                simp only [Bool.false_eq_true, if_false] at hpx
                have htx := hide (fun w1 (hX1 : Xr w1 r b s l') => text304 r b s l' w1 hs hX1)
                cases hsx : strictX (l'.takeWhile noLt) (l'.dropWhile noLt) with
                | error k =>
                  rw [hsx] at hpx htx
                  have hpc : pieceX l' = .said (.error k) := hpx
                  have HR := hide (hS.out.stop HN.out (.inr (.inl hpc)))
                  clear hpx hpc hn hcx hlx hsx
                  go_wp2_with fail
                  refine (hbg.out).mono ?_
                  rintro e w1 ⟨rfl, n_w1, hn_w1⟩
                  have HS_w1 := hide (hS.out.nil (show Keeps [] wo w1 from by rw [hn_w1]; exact (Keeps.refl [] _).drewN _))
                  have c_w1 := HS_w1.out.xr.cell
                  clear hn_w1
                  go_wp2_with fail
                  refine (hdn.out w1 HS_w1.out.xr.tx).mono ?_
                  rintro e w2 ⟨rfl, n_w2, hn_w2⟩
                  have HS_w2 := hide (HS_w1.out.nil (show Keeps [] w1 w2 from by rw [hn_w2]; exact (Keeps.refl [] _).drewN _))
                  have c_w2 := HS_w2.out.xr.cell
                  clear hn_w2
                  go_wp2_with fail
                  refine (hre.out w2 HS_w2.out.xr (hm0.out _ HS_w2.out.kp)).mono ?_
                  rintro e w3 ⟨hro, hk3⟩
                  unfold RemOut at hro
                  rw [hrx] at hro
                  obtain ⟨rfl, hX3⟩ := hro
                  have HS_w3 := hide (HS_w2.out.same hk3 hbl hX3)
                  have c_w3 := HS_w3.out.xr.cell
                  clear hk3 hX3
                  go_wp2_with fail
                  refine (hcd.out w3 HS_w3.out.xr.tx).mono ?_
                  rintro e w4 ⟨rfl, hT4, hk4⟩
                  have HS_w4 := hide (HS_w3.out.same hk4 hbl (HS_w3.out.xr.on hk4 hT4))
                  have c_w4 := HS_w4.out.xr.cell
                  clear hk4 hT4
                  go_wp2_with fail
                  refine (hlt.out w4 HS_w4.out.xr.tx).mono ?_
                  rintro e w5 ⟨rfl, n_w5, hn_w5⟩
                  have HS_w5 := hide (HS_w4.out.nil (show Keeps [] w4 w5 from by rw [hn_w5]; exact (Keeps.refl [] _).drewN _))
                  have c_w5 := HS_w5.out.xr.cell
                  clear hn_w5
                  go_wp2_with fail
                  refine (htx.out w5 HS_w5.out.xr).mono ?_
                  rintro e w6 ⟨hg, hk6⟩
                  rcases hg with ⟨_, h9, _⟩ | ⟨k2, h9, rfl⟩
                  case inl => cases h9
                  cases h9
                  exact ⟨rfl, .inr ⟨k, HR.out, rfl⟩, HS_w5.out.kp.trans hk6⟩

                | ok p =>
                  obtain ⟨t, l2⟩ := p
                  have hso := strictX_ok hsx
                  have htl : t.length ≤ 4 * (l'.length - l2.length) := by
                    rw [hso.1, hso.2]
                    have h1 := takeL_len (l'.takeWhile noLt)
                    have h2 := takeDrop_len noLt l'
                    omega
                  rw [hsx] at hpx htx
                  have hpc : pieceX l' = .said (.ok (t, l2)) := hpx
                  clear hpx hn hcx hlx hsx hso
                  go_wp2_with fail
                  refine (hbg.out).mono ?_
                  rintro e w1 ⟨rfl, n_w1, hn_w1⟩
                  have HS_w1 := hide (hS.out.nil (show Keeps [] wo w1 from by rw [hn_w1]; exact (Keeps.refl [] _).drewN _))
                  have c_w1 := HS_w1.out.xr.cell
                  clear hn_w1
                  go_wp2_with fail
                  refine (hdn.out w1 HS_w1.out.xr.tx).mono ?_
                  rintro e w2 ⟨rfl, n_w2, hn_w2⟩
                  have HS_w2 := hide (HS_w1.out.nil (show Keeps [] w1 w2 from by rw [hn_w2]; exact (Keeps.refl [] _).drewN _))
                  have c_w2 := HS_w2.out.xr.cell
                  clear hn_w2
                  go_wp2_with fail
                  refine (hre.out w2 HS_w2.out.xr (hm0.out _ HS_w2.out.kp)).mono ?_
                  rintro e w3 ⟨hro, hk3⟩
                  unfold RemOut at hro
                  rw [hrx] at hro
                  obtain ⟨rfl, hX3⟩ := hro
                  have HS_w3 := hide (HS_w2.out.same hk3 hbl hX3)
                  have c_w3 := HS_w3.out.xr.cell
                  clear hk3 hX3
                  go_wp2_with fail
                  refine (hcd.out w3 HS_w3.out.xr.tx).mono ?_
                  rintro e w4 ⟨rfl, hT4, hk4⟩
                  have HS_w4 := hide (HS_w3.out.same hk4 hbl (HS_w3.out.xr.on hk4 hT4))
                  have c_w4 := HS_w4.out.xr.cell
                  clear hk4 hT4
                  go_wp2_with fail
                  refine (hlt.out w4 HS_w4.out.xr.tx).mono ?_
                  rintro e w5 ⟨rfl, n_w5, hn_w5⟩
                  have HS_w5 := hide (HS_w4.out.nil (show Keeps [] w4 w5 from by rw [hn_w5]; exact (Keeps.refl [] _).drewN _))
                  have c_w5 := HS_w5.out.xr.cell
                  clear hn_w5
                  go_wp2_with fail
                  refine (htx.out w5 HS_w5.out.xr).mono ?_
                  rintro e w6 ⟨hg, hk6⟩
                  rcases hg with ⟨_, h9, rfl, hX6⟩ | ⟨k2, h9, _⟩
                  case inr => cases h9
                  cases h9
                  simp only at hX6
                  have hT6 := HS_w5.out.ls.past hk6 (fun g hg => by simp at hg; omega)
                  obtain ⟨W7, hW7⟩ : ∃ W7, w6.alloc (.cells #[.string ⟨#[]⟩, .slice none 0 0, .string ⟨t.toArray⟩, .slice none 0 0] 45) = W7 := ⟨_, rfl⟩
                  have hka7 : Keeps [] w6 W7 := by rw [← hW7]; exact (Keeps.refl [] _).alloc _
                  have hb7 : W7.heap[w6.heap.size]? = some (.cells #[.string ⟨([] : List UInt8).toArray⟩, .slice none 0 0, .string ⟨t.toArray⟩, .slice none 0 0] 45 (0, 0)) := by rw [← hW7]; exact heap_alloc_new _ _
                  have hwt := HS_w5.out.wt
                  have hpl := pieceX_said hpc
                  have hpu := hide (putL_any w.heap.size w.heap.size acc T W7 (hT6.keepsNil hka7) [] t [] [] (by omega) none none 0 0 0 0 w6.heap.size (IsNd.of hb7) (fun h => absurd rfl h))
                  have HT7 := hide (hT6.keepsNil hka7)
                  have HX7 := hide (hX6.keeps0 hka7)
                  have HK7 := hide (hk6.trans (hka7.to (by simp)))
                  have HW7 := hide hW7
                  have HTL : Hid (t.length ≤ 4 * (l'.length - l2.length)) := htl
                  clear hT6 hka7 hb7 hW7
                  go_wp2_with fail
                  rw [HW7.out]
                  refine hpu.out.mono ?_
                  rintro e w8 ⟨rfl, T8, hl8, hs8⟩
                  have HS8 := hide (HS_w5.out.said hbl hrl hpc HN.out HTL.out HX7.out HK7.out hl8 hs8 HT7.out)
                  have hms : left b s w8 < left b s wo := by rw [HS8.out.xr.tx.left, hleft.out]; omega
                  have HMS := hide hms
                  clear hms hl8 hs8
                  go_wp2_with fail
                  exact ⟨⟨acc.put (textN t), l2, T8, f, by omega, HS8.out⟩, HMS.out⟩

              · rw [hlx] at hpx hlt
                simp only [if_true] at hpx
                have hpc : pieceX l' = .kid := hpx
                have hek := hide (fun w1 hX1 hM1 => HEL.out f l' w1 (by omega) (by omega) hX1 hM1)
                cases hex : elementX f (d + 1) l' with
                | error k =>
                  rw [hex] at hek
                  have HR := hide (hS.out.stop HN.out (.inr (.inr ⟨hpc, hex⟩)))
                  clear hpx hpc hn hcx hlx hex
                  go_wp2_with fail
                  refine (hbg.out).mono ?_
                  rintro e w1 ⟨rfl, n_w1, hn_w1⟩
                  have HS_w1 := hide (hS.out.nil (show Keeps [] wo w1 from by rw [hn_w1]; exact (Keeps.refl [] _).drewN _))
                  have c_w1 := HS_w1.out.xr.cell
                  clear hn_w1
                  go_wp2_with fail
                  refine (hdn.out w1 HS_w1.out.xr.tx).mono ?_
                  rintro e w2 ⟨rfl, n_w2, hn_w2⟩
                  have HS_w2 := hide (HS_w1.out.nil (show Keeps [] w1 w2 from by rw [hn_w2]; exact (Keeps.refl [] _).drewN _))
                  have c_w2 := HS_w2.out.xr.cell
                  clear hn_w2
                  go_wp2_with fail
                  refine (hre.out w2 HS_w2.out.xr (hm0.out _ HS_w2.out.kp)).mono ?_
                  rintro e w3 ⟨hro, hk3⟩
                  unfold RemOut at hro
                  rw [hrx] at hro
                  obtain ⟨rfl, hX3⟩ := hro
                  have HS_w3 := hide (HS_w2.out.same hk3 hbl hX3)
                  have c_w3 := HS_w3.out.xr.cell
                  clear hk3 hX3
                  go_wp2_with fail
                  refine (hcd.out w3 HS_w3.out.xr.tx).mono ?_
                  rintro e w4 ⟨rfl, hT4, hk4⟩
                  have HS_w4 := hide (HS_w3.out.same hk4 hbl (HS_w3.out.xr.on hk4 hT4))
                  have c_w4 := HS_w4.out.xr.cell
                  clear hk4 hT4
                  go_wp2_with fail
                  refine (hlt.out w4 HS_w4.out.xr.tx).mono ?_
                  rintro e w5 ⟨rfl, n_w5, hn_w5⟩
                  have HS_w5 := hide (HS_w4.out.nil (show Keeps [] w4 w5 from by rw [hn_w5]; exact (Keeps.refl [] _).drewN _))
                  have c_w5 := HS_w5.out.xr.cell
                  clear hn_w5
                  go_wp2_with fail
                  refine (hek.out w5 HS_w5.out.xr (hm0.out _ HS_w5.out.kp)).mono ?_
                  rintro e w6 ⟨hg, hk6⟩
                  rcases hg with ⟨_, h9, _⟩ | ⟨k2, h9, rfl⟩
                  case inl => cases h9
                  cases h9
                  exact ⟨rfl, .inr ⟨k, HR.out, rfl⟩, HS_w5.out.kp.trans hk6⟩

                | ok p =>
                  obtain ⟨nd, l2⟩ := p
                  have hrg := (right_all f).1 (d + 1) l' nd l2 hex
                  have hsz1 : 1 ≤ sizeNs [nd] := by cases nd; simp [sizeNs]
                  rw [hex] at hek
                  have HEX := hide hex
                  clear hpx hn hcx hlx hex
                  go_wp2_with fail
                  refine (hbg.out).mono ?_
                  rintro e w1 ⟨rfl, n_w1, hn_w1⟩
                  have HS_w1 := hide (hS.out.nil (show Keeps [] wo w1 from by rw [hn_w1]; exact (Keeps.refl [] _).drewN _))
                  have c_w1 := HS_w1.out.xr.cell
                  clear hn_w1
                  go_wp2_with fail
                  refine (hdn.out w1 HS_w1.out.xr.tx).mono ?_
                  rintro e w2 ⟨rfl, n_w2, hn_w2⟩
                  have HS_w2 := hide (HS_w1.out.nil (show Keeps [] w1 w2 from by rw [hn_w2]; exact (Keeps.refl [] _).drewN _))
                  have c_w2 := HS_w2.out.xr.cell
                  clear hn_w2
                  go_wp2_with fail
                  refine (hre.out w2 HS_w2.out.xr (hm0.out _ HS_w2.out.kp)).mono ?_
                  rintro e w3 ⟨hro, hk3⟩
                  unfold RemOut at hro
                  rw [hrx] at hro
                  obtain ⟨rfl, hX3⟩ := hro
                  have HS_w3 := hide (HS_w2.out.same hk3 hbl hX3)
                  have c_w3 := HS_w3.out.xr.cell
                  clear hk3 hX3
                  go_wp2_with fail
                  refine (hcd.out w3 HS_w3.out.xr.tx).mono ?_
                  rintro e w4 ⟨rfl, hT4, hk4⟩
                  have HS_w4 := hide (HS_w3.out.same hk4 hbl (HS_w3.out.xr.on hk4 hT4))
                  have c_w4 := HS_w4.out.xr.cell
                  clear hk4 hT4
                  go_wp2_with fail
                  refine (hlt.out w4 HS_w4.out.xr.tx).mono ?_
                  rintro e w5 ⟨rfl, n_w5, hn_w5⟩
                  have HS_w5 := hide (HS_w4.out.nil (show Keeps [] w4 w5 from by rw [hn_w5]; exact (Keeps.refl [] _).drewN _))
                  have c_w5 := HS_w5.out.xr.cell
                  clear hn_w5
                  go_wp2_with fail
                  refine (hek.out w5 HS_w5.out.xr (hm0.out _ HS_w5.out.kp)).mono ?_
                  rintro e w6 ⟨hg, hk6⟩
                  rcases hg with ⟨_, h9, oa, ca, ok, ck, rfl, hLA, hNK, hX6⟩ | ⟨k2, h9, _⟩
                  case inr => cases h9
                  cases h9
                  simp only at hX6 hLA hNK
                  have hge5 := HS_w5.out.ls.ge
                  have hT6 := HS_w5.out.ls.past hk6 (fun g hg => by simp at hg; omega)
                  obtain ⟨W7, hW7⟩ : ∃ W7, w6.alloc (.cells #[.string ⟨nd.name.toArray⟩, .slice oa nd.attrs.length ca, .string ⟨nd.text.toArray⟩, .slice ok nd.kids.length ck] 45) = W7 := ⟨_, rfl⟩
                  have hka7 : Keeps [] w6 W7 := by rw [← hW7]; exact (Keeps.refl [] _).alloc _
                  have hb7 : W7.heap[w6.heap.size]? = some (.cells #[.string ⟨nd.name.toArray⟩, .slice oa nd.attrs.length ca, .string ⟨nd.text.toArray⟩, .slice ok nd.kids.length ck] 45 (0, 0)) := by rw [← hW7]; exact heap_alloc_new _ _
                  have hwt := HS_w5.out.wt
                  have htx0 : nd.text = [] := by
                    have h9 := hrg.2.1
                    have h8 := hrg.1
                    cases nd with
                    | mk n a t k => simp only [Nd.name] at h8; rw [RtX, if_neg h8] at h9; exact h9.1
                  have hpu := hide (putL_any w.heap.size w.heap.size acc T W7 (hT6.keepsNil hka7) nd.name nd.text nd.attrs nd.kids (by rw [htx0]; simp; omega) oa ok nd.attrs.length ca nd.kids.length ck w6.heap.size (IsNd.of hb7) (fun _ => ⟨(hLA.mono (fun g _ hg => DoneB.fresh hge5.2 (fun g hg => (hge5.1 g hg).2) hg)).keeps hka7 (fun _ _ => List.not_mem_nil), (hNK.mono (fun g _ hg => DoneB.fresh hge5.2 (fun g hg => (hge5.1 g hg).2) hg)).keeps0 hka7⟩))
                  rw [Nd.eta] at hpu
                  have HT7 := hide (hT6.keepsNil hka7)
                  have HX7 := hide (hX6.keeps0 hka7)
                  have HK7 := hide (hk6.trans (hka7.to (by simp)))
                  have HW7 := hide hW7
                  clear hT6 hka7 hb7 hW7 hLA hNK hX6 htx0
                  go_wp2_with fail
                  rw [HW7.out]
                  refine hpu.out.mono ?_
                  rintro e w8 ⟨rfl, T8, hl8, hs8⟩
                  have HS8 := hide (HS_w5.out.kid hbl hrl hpc HN.out HEX.out HX7.out HK7.out hl8 hs8 HT7.out)
                  have hms : left b s w8 < left b s wo := by rw [HS8.out.xr.tx.left, hleft.out]; have := hrg.2.2; omega
                  have HMS := hide hms
                  clear hms hl8 hs8
                  go_wp2_with fail
                  exact ⟨⟨acc.put nd, l2, T8, f, by omega, HS8.out⟩, HMS.out⟩

            · rw [hcx] at hpx hcd
              simp only [if_true] at hpx hcd
              have hlc : cdata.length = 9 := rfl
              rw [hlc] at hcd
              have hpt := hide (fun w1 (hX1 : Xr w1 r b s (l'.drop 9)) hM1 => passTo301 r b s (l'.drop 9) [93, 93, 62] w1 hs (by simp) hX1 hM1)
              cases htx : toX [93, 93, 62] (l'.drop 9) with
              | error k =>
                rw [htx] at hpx hpt
                have hpc : pieceX l' = .said (.error k) := hpx
                have HR := hide (hS.out.stop HN.out (.inr (.inl hpc)))
                clear hpx hpc hn hcx htx hlc
                go_wp2_with fail
                refine (hbg.out).mono ?_
                rintro e w1 ⟨rfl, n_w1, hn_w1⟩
                have HS_w1 := hide (hS.out.nil (show Keeps [] wo w1 from by rw [hn_w1]; exact (Keeps.refl [] _).drewN _))
                have c_w1 := HS_w1.out.xr.cell
                clear hn_w1
                go_wp2_with fail
                refine (hdn.out w1 HS_w1.out.xr.tx).mono ?_
                rintro e w2 ⟨rfl, n_w2, hn_w2⟩
                have HS_w2 := hide (HS_w1.out.nil (show Keeps [] w1 w2 from by rw [hn_w2]; exact (Keeps.refl [] _).drewN _))
                have c_w2 := HS_w2.out.xr.cell
                clear hn_w2
                go_wp2_with fail
                refine (hre.out w2 HS_w2.out.xr (hm0.out _ HS_w2.out.kp)).mono ?_
                rintro e w3 ⟨hro, hk3⟩
                unfold RemOut at hro
                rw [hrx] at hro
                obtain ⟨rfl, hX3⟩ := hro
                have HS_w3 := hide (HS_w2.out.same hk3 hbl hX3)
                have c_w3 := HS_w3.out.xr.cell
                clear hk3 hX3
                go_wp2_with fail
                refine (hcd.out w3 HS_w3.out.xr.tx).mono ?_
                rintro e w4 ⟨rfl, hT4, hk4⟩
                have HX4 := hide (HS_w3.out.xr.on hk4 hT4)
                have HK4 := hide hk4
                clear hk4 hT4
                go_wp2_with fail
                refine (hpt.out w4 HX4.out (hm0.out _ (HS_w3.out.kp.trans HK4.out))).mono ?_
                rintro e w6 ⟨hg, hk6⟩
                rcases hg with ⟨_, h9, _⟩ | ⟨k2, h9, rfl⟩
                case inl => cases h9
                cases h9
                exact ⟨rfl, .inr ⟨k, HR.out, rfl⟩, (HS_w3.out.kp.trans HK4.out).trans hk6⟩

              | ok p =>
                obtain ⟨t, l2⟩ := p
                have hto := toX_ok htx
                have htl : t.length ≤ 4 * (l'.length - l2.length) := by simp at hto; omega
                rw [htx] at hpx hpt
                have hpc : pieceX l' = .said (.ok (t, l2)) := hpx
                clear hpx hn hcx htx hlc hto
                go_wp2_with fail
                refine (hbg.out).mono ?_
                rintro e w1 ⟨rfl, n_w1, hn_w1⟩
                have HS_w1 := hide (hS.out.nil (show Keeps [] wo w1 from by rw [hn_w1]; exact (Keeps.refl [] _).drewN _))
                have c_w1 := HS_w1.out.xr.cell
                clear hn_w1
                go_wp2_with fail
                refine (hdn.out w1 HS_w1.out.xr.tx).mono ?_
                rintro e w2 ⟨rfl, n_w2, hn_w2⟩
                have HS_w2 := hide (HS_w1.out.nil (show Keeps [] w1 w2 from by rw [hn_w2]; exact (Keeps.refl [] _).drewN _))
                have c_w2 := HS_w2.out.xr.cell
                clear hn_w2
                go_wp2_with fail
                refine (hre.out w2 HS_w2.out.xr (hm0.out _ HS_w2.out.kp)).mono ?_
                rintro e w3 ⟨hro, hk3⟩
                unfold RemOut at hro
                rw [hrx] at hro
                obtain ⟨rfl, hX3⟩ := hro
                have HS_w3 := hide (HS_w2.out.same hk3 hbl hX3)
                have c_w3 := HS_w3.out.xr.cell
                clear hk3 hX3
                go_wp2_with fail
                refine (hcd.out w3 HS_w3.out.xr.tx).mono ?_
                rintro e w4 ⟨rfl, hT4, hk4⟩
                have HX4 := hide (HS_w3.out.xr.on hk4 hT4)
                have HK4 := hide hk4
                clear hk4 hT4
                go_wp2_with fail
                refine (hpt.out w4 HX4.out (hm0.out _ (HS_w3.out.kp.trans HK4.out))).mono ?_
                rintro e w6 ⟨hg, hk6⟩
                rcases hg with ⟨_, h9, rfl, hX6⟩ | ⟨k2, h9, _⟩
                case inr => cases h9
                cases h9
                simp only at hX6
                have hk46 := HK4.out.trans hk6
                have hT6 := HS_w3.out.ls.past hk46 (fun g hg => by simp at hg; omega)
                obtain ⟨W7, hW7⟩ : ∃ W7, w6.alloc (.cells #[.string ⟨#[]⟩, .slice none 0 0, .string ⟨t.toArray⟩, .slice none 0 0] 45) = W7 := ⟨_, rfl⟩
                have hka7 : Keeps [] w6 W7 := by rw [← hW7]; exact (Keeps.refl [] _).alloc _
                have hb7 : W7.heap[w6.heap.size]? = some (.cells #[.string ⟨([] : List UInt8).toArray⟩, .slice none 0 0, .string ⟨t.toArray⟩, .slice none 0 0] 45 (0, 0)) := by rw [← hW7]; exact heap_alloc_new _ _
                have hwt := HS_w3.out.wt
                have hpl := pieceX_said hpc
                have hpu := hide (putL_any w.heap.size w.heap.size acc T W7 (hT6.keepsNil hka7) [] t [] [] (by omega) none none 0 0 0 0 w6.heap.size (IsNd.of hb7) (fun h => absurd rfl h))
                have HT7 := hide (hT6.keepsNil hka7)
                have HX7 := hide (hX6.keeps0 hka7)
                have HK7 := hide (hk46.trans (hka7.to (by simp)))
                have HW7 := hide hW7
                have HTL : Hid (t.length ≤ 4 * (l'.length - l2.length)) := htl
                clear hT6 hka7 hb7 hW7
                go_wp2_with fail
                rw [HW7.out]
                refine hpu.out.mono ?_
                rintro e w8 ⟨rfl, T8, hl8, hs8⟩
                have HS8 := hide (HS_w3.out.said hbl hrl hpc HN.out HTL.out HX7.out HK7.out hl8 hs8 HT7.out)
                have hms : left b s w8 < left b s wo := by rw [HS8.out.xr.tx.left, hleft.out]; omega
                have HMS := hide hms
                clear hms hl8 hs8
                go_wp2_with fail
                exact ⟨⟨acc.put (textN t), l2, T8, f, by omega, HS8.out⟩, HMS.out⟩

      · rw [hn] at hbg
        have HR : Hid (R = .ok (acc.done, l')) := by
          have h2 := hS.out.eq
          rw [kidsX, hn] at h2
          exact hide (by simpa using h2.symm)
        clear hn hdn hre hcd hlt hfl
        go_wp2_with fail
        refine (hbg.out).mono ?_
        rintro e w1 ⟨rfl, n_w1, hn_w1⟩
        have HS_w1 := hide (hS.out.nil (show Keeps [] wo w1 from by rw [hn_w1]; exact (Keeps.refl [] _).drewN _))
        have c_w1 := HS_w1.out.xr.cell
        clear hn_w1
        have hwt := HS_w1.out.wt
        have hal := hide (allL_any w.heap.size w.heap.size acc T w1 HS_w1.out.ls (by omega))
        go_wp2_with fail
        refine hal.out.mono ?_
        rintro e w2 ⟨v, rfl, hN, hk2⟩
        obtain ⟨o2, c2, hv2⟩ := hN.form
        subst hv2
        have hge := HS_w1.out.ls.ge
        have HX2 := hide (HS_w1.out.xr.keeps hk2 (fun hm => by have := (hge.1 _ hm).1; omega) (fun hm => by have := (hge.1 _ hm).1; omega))
        have HN := hide hN
        have HK2 := hide (keeps_on HS_w1.out.kp hk2 (fun g hg hlt => by have := (hge.1 _ hg).1; omega))
        clear hN hk2
        go_wp2_with fail
        go_ret
        exact ⟨.inl ⟨_, HR.out, o2, c2, rfl, HN.out, HX2.out⟩, HK2.out⟩
end Go.Proofs.YtlcljanibjdejaaGreat
namespace Go.Proofs.YtlcljanibjdejaaGreat
open Go.RowKit Go.Maps
theorem element_all (r b : Nat) (s : ByteArray) (hs : s.size ≤ 3000) (hb0 : b ≠ 0) : ∀ (F d : Nat), d ≤ 9 → ∀ (l : List UInt8) (w : World), Xr w r b s l → HasMax w → 2 * l.length < F →
    Calls Tryz.prog 187 #[.pointer (some ⟨r, 0, none⟩), .int .i64 d] w fun e w' => Gives (elementX F d l) (ElOut w r b s) e w' ∧ Keeps [b] w w' := by
  intro F
  induction F using Nat.strongRecOn with
  | ind F ih =>
    intro d hd l w hX hM hf
    cases F with
    | zero => omega
    | succ f =>
      refine element187 r b s hs hb0 f d hd (fun h8 l w hX hM hlt => ?_) l w hX hM hf
      refine kids259 r b s hs hb0 f d h8 (fun g l w hg hlt hX hM => ?_) l w hX hM hlt
      have := ih g (by omega) (d + 1) (by omega) l w hX hM hlt
      rw [show ((d + 1 : Nat) : Int) = (d : Int) + 1 from by omega] at this
      exact this
/-- What document comes to. -/
def DocOut (w : World) (n : Nd) (v : Value) (w' : World) : Prop :=
  ∃ oa ca ok ck, v = .agg #[.string ⟨n.name.toArray⟩, .slice oa n.attrs.length ca, .string ⟨n.text.toArray⟩, .slice ok n.kids.length ck] ∧ LiesP w' (fun g => w.heap.size ≤ g) (.slice oa n.attrs.length ca) n.attrs.length 2 (pairCells n.attrs) ∧ Ns w' (fun g => w.heap.size ≤ g) (.slice ok n.kids.length ck) n.kids
set_option maxRecDepth 4000 in
set_option maxHeartbeats 8000000 in
theorem doc100 (r b : Nat) (s : ByteArray) (l : List UInt8) (w : World) (hs : s.size ≤ 3000) (hb0 : b ≠ 0) (h : Xr w r b s l) (hM : HasMax w) :
    Calls Tryz.prog 100 #[.pointer (some ⟨r, 0, none⟩)] w fun e w' => Gives (docX l) (fun n e w' => ∃ v, e = .returned v ∧ DocOut w n v w') e w' ∧ Keeps [b] w w' := by
  have hX := hide h
  have hbl := h.tx.lt
  have hrl := h.lt
  have hm0 := hide (fun (w1 : World) (hk : Keeps [b] w w1) => hM.keeps hk (by simpa using hb0.symm))
  obtain ⟨W, hW⟩ : ∃ W, w.alloc (.cells #[.string ⟨#[]⟩, .slice none 0 0, .string ⟨#[]⟩, .slice none 0 0] 45) = W := ⟨_, rfl⟩
  have hkW : Keeps [] w W := by rw [← hW]; exact (Keeps.refl [] w).alloc _
  have hbR : W.heap[w.heap.size]? = some (.cells #[.string ⟨#[]⟩, .slice none 0 0, .string ⟨#[]⟩, .slice none 0 0] 45 (0, 0)) := by rw [← hW]; exact heap_alloc_new w _
  have hres : ∀ (tmps : Array Value) (w3 : World) (cs : Array Value), cs.size = 4 → tmps.getD 2 undef = .pointer (some ⟨w.heap.size, 0, none⟩) → w3.heap[w.heap.size]? = some (.cells cs 45 (0, 0)) → (results Tryz.f100 tmps).run Tryz.prog w3 = .ok (.agg cs) w3 := fun tmps w3 cs hc hp hg => results_cell_row (P := Tryz.prog) rfl tmps w3 _ 45 cs (0, 0) _ hp hg Tryz.underlying45 rfl (by rw [hc]; kernel_rfl)
  have hmi := hide (fun (L : List UInt8) (w1 : World) (hX : Xr w1 r b s L) hM1 => misc186 r b s L w1 hs hX hM1 hb0)
  have hel := hide (fun (L : List UInt8) (w1 : World) (hX : Xr w1 r b s L) hM1 => element_all r b s hs hb0 (2 * L.length + 2) 1 (by omega) L w1 hX hM1 (by omega))
  have hdn := hide (fun (L : List UInt8) (w1 : World) (hX : Xr w1 r b s L) => txDone b s L w1 hX.tx)
  have HV : Hid (docX l = match miscX (l.length + 1) l with | .error e => .error e | .ok l1 => match elementX (2 * l1.length + 2) 1 l1 with | .error e => .error e | .ok (n, l2) => match miscX (l2.length + 1) l2 with | .error e => .error e | .ok [] => .ok n | .ok (_ :: _) => .error 1) := rfl
  have HBR := hide hbR
  have HKW := hide hkW
  have HW := hide hW
  have hWs : w.heap.size < W.heap.size := lt_of_block hbR
  clear h hkW hW hbR hM
  go_enter Tryz.func100, Tryz.ntmps100
  go_upto_region 1 with fail
  rw [HW.out]
  go_wp2_with fail
  refine (hmi.out l _ (hX.out.keeps0 HKW.out) (hm0.out _ (HKW.out.to (by simp)))).mono ?_
  rintro e w1 ⟨hg1, hk1⟩
  rcases hg1 with ⟨l1, hx1, rfl, hX1⟩ | ⟨k1, hx1, rfl⟩
  case inr => exact ⟨rfl, .inr ⟨k1, HV.out.trans (by rw [hx1]), rfl⟩, (HKW.out.to (by simp)).trans hk1⟩
  have HX1 := hide hX1
  have HE1 := hide hx1
  have HK1 := hide ((HKW.out.to (T := [b]) (by simp)).trans hk1)
  have HR1 := hide ((hk1.block _ (lt_of_block HBR.out) (by simp; omega)).trans HBR.out)
  have hs1 := hk1.size
  clear hX1 hx1 hk1
  go_wp2_with fail
  refine (hel.out l1 _ HX1.out (hm0.out _ HK1.out)).mono ?_
  rintro e w2 ⟨hg2, hk2⟩
  rcases hg2 with ⟨⟨n, l2⟩, hx2, oa, ca, ok, ck, rfl, hLA, hNK, hX2⟩ | ⟨k2, hx2, rfl⟩
  case inr => exact ⟨rfl, .inr ⟨k2, HV.out.trans (by rw [HE1.out]; simp only [hx2]), rfl⟩, HK1.out.trans hk2⟩
  simp only at hLA hNK hX2
  have HE2 := hide hx2
  obtain ⟨W3, hW3⟩ : ∃ W3, w2.alloc (.cells #[.string ⟨n.name.toArray⟩, .slice oa n.attrs.length ca, .string ⟨n.text.toArray⟩, .slice ok n.kids.length ck] 45) = W3 := ⟨_, rfl⟩
  have hka : Keeps [] w2 W3 := by rw [← hW3]; exact (Keeps.refl [] w2).alloc _
  have hbq : W3.heap[w2.heap.size]? = some (.cells #[.string ⟨n.name.toArray⟩, .slice oa n.attrs.length ca, .string ⟨n.text.toArray⟩, .slice ok n.kids.length ck] 45 (0, 0)) := by rw [← hW3]; exact heap_alloc_new w2 _
  have HX3 := hide (hX2.keeps0 hka)
  have HLA := hide (hLA.keeps hka (fun _ _ => List.not_mem_nil))
  have HNK := hide (hNK.keeps0 hka)
  have HK3 := hide ((HK1.out.trans hk2).trans (hka.to (by simp)))
  have HR3 := hide ((hka.block _ (by have := hk2.size; have := lt_of_block HR1.out; omega) List.not_mem_nil).trans ((hk2.block _ (lt_of_block HR1.out) (by simp; omega)).trans HR1.out))
  have HBQ := hide hbq
  have HW3 := hide hW3
  have hs2 := hk2.size
  clear hLA hNK hX2 hx2 hk2 hka hbq hW3
  go_upto_region 3 with fail
  rw [HW3.out]
  go_wp2_with fail
  refine (hmi.out l2 _ HX3.out (hm0.out _ HK3.out)).mono ?_
  rintro e w4 ⟨hg4, hk4⟩
  rcases hg4 with ⟨l4, hx4, rfl, hX4⟩ | ⟨k4, hx4, rfl⟩
  case inr => exact ⟨rfl, .inr ⟨k4, HV.out.trans (by rw [HE1.out]; simp only [HE2.out, hx4]), rfl⟩, HK3.out.trans hk4⟩
  have HE4 := hide hx4
  have HX4 := hide hX4
  have c4 := hX4.cell
  have HK4 := hide (HK3.out.trans hk4)
  have HB4 := hide ((hk4.block _ (lt_of_block HBQ.out) (by simp; omega)).trans HBQ.out)
  have HR4 := hide ((hk4.block _ (lt_of_block HR3.out) (by simp; omega)).trans HR3.out)
  have HLA4 := hide (HLA.out.keeps hk4 (fun g hg hm => by simp at hm; omega))
  have HNK4 := hide (HNK.out.keeps hk4 (fun g hg hm => by simp at hm; omega))
  have hd4 := hide (hdn.out l4 w4 HX4.out)
  clear hx4 hX4 hk4
  cases l4 with
  | nil =>
    simp only [List.isEmpty_nil] at hd4
    go_wp2_with fail
    refine hd4.out.mono ?_
    rintro e w5 ⟨rfl, n5, h5⟩
    have hk5 : Keeps [] w4 w5 := by rw [h5]; exact (Keeps.refl [] w4).drewN n5
    have hb5 := (hk5.block _ (lt_of_block HB4.out) List.not_mem_nil).trans HB4.out
    have hR5 := (hk5.block _ (lt_of_block HR4.out) List.not_mem_nil).trans HR4.out
    have HR5 := hide hR5
    have HK5 := hide (HK4.out.trans (hk5.to (by simp)))
    have HLA5 := hide (HLA4.out.keeps hk5 (fun _ _ => List.not_mem_nil))
    have HNK5 := hide (HNK4.out.keeps0 hk5)
    have y0 := cell_blk hb5 0
    have y1 := cell_blk hb5 1
    have y2 := cell_blk hb5 2
    have y3 := cell_blk hb5 3
    have z0 := cell_blk hR5 0
    have z1 := cell_blk hR5 1
    have z2 := cell_blk hR5 2
    have z3 := cell_blk hR5 3
    have g0 := free_blk hR5 0
    have g1 := free_blk hR5 1
    have g2 := free_blk hR5 2
    have g3 := free_blk hR5 3
    simp at y0 y1 y2 y3 z0 z1 z2 z3
    clear h5 hk5 hb5 hR5 c4
    go_wp2_with fail
    have hks := set4_keeps w5 w.heap.size (.string ⟨n.name.toArray⟩) (.slice oa n.attrs.length ca) (.string ⟨n.text.toArray⟩) (.slice ok n.kids.length ck)
    refine ⟨rfl, _, hres _ _ #[.string ⟨n.name.toArray⟩, .slice oa n.attrs.length ca, .string ⟨n.text.toArray⟩, .slice ok n.kids.length ck] rfl rfl (set4_blk _ _ _ _ HR5.out), .inl ⟨n, HV.out.trans (by rw [HE1.out]; simp only [HE2.out, HE4.out]), _, rfl, oa, ca, ok, ck, rfl, ?_, ?_⟩, keeps_on HK5.out hks (fun g hg hlt => by simp at hg; omega)⟩
    · exact (HLA5.out.keeps hks (fun g hg hm => by simp at hm; omega)).mono (fun g _ hg => by omega)
    · exact (HNK5.out.keeps hks (fun g hg hm => by simp at hm; omega)).mono (fun g _ hg => by omega)
  | cons x l4 =>
    simp only [List.isEmpty_cons] at hd4
    go_wp2_with fail
    refine hd4.out.mono ?_
    rintro e w5 ⟨rfl, n5, h5⟩
    have hk5 : Keeps [] w4 w5 := by rw [h5]; exact (Keeps.refl [] w4).drewN n5
    clear h5
    go_wp2_with fail
    refine (with_any _ _).mono ?_
    rintro e w6 ⟨rfl, rfl⟩
    exact ⟨rfl, .inr ⟨1, HV.out.trans (by rw [HE1.out]; simp only [HE2.out, HE4.out]), rfl⟩, HK4.out.trans (hk5.to (by simp))⟩
end Go.Proofs.YtlcljanibjdejaaGreat
namespace Go.Proofs.YtlcljanibjdejaaGreat
open Go.RowKit Go.Maps
theorem mustX_no {m l : List UInt8} {k : Int} (h : mustX m l = .error k) : k ≠ 0 := by unfold mustX at h; split at h <;> cases h; decide
theorem titleX_no {l : List UInt8} {k : Int} (h : titleX l = .error k) : k ≠ 0 := by unfold titleX at h; split at h <;> cases h; decide
theorem toX_no {m l : List UInt8} {k : Int} (h : toX m l = .error k) : k ≠ 0 := by unfold toX at h; split at h <;> cases h; decide
theorem strictX_no {a l : List UInt8} {k : Int} (h : strictX a l = .error k) : k ≠ 0 := by unfold strictX at h; split at h <;> cases h; decide
theorem remX_no {l : List UInt8} {k : Int} (h : remX l = some (.error k)) : k ≠ 0 := by
  unfold remX at h
  split at h
  · injection h with h; exact toX_no h
  · split at h
    · injection h with h; exact toX_no h
    · simp at h
theorem valueX_no {l : List UInt8} {k : Int} (h : valueX l = .error k) : k ≠ 0 := by
  unfold valueX at h
  split at h
  · rename_i h1; cases h; exact mustX_no h1
  · split at h
    · rename_i h1; cases h; exact mustX_no h1
    · exact strictX_no h
theorem attrX_no {l : List UInt8} {k : Int} (h : attrX l = .error k) : k ≠ 0 := by
  unfold attrX at h
  split at h
  · rename_i h1; cases h; exact titleX_no h1
  · split at h
    · rename_i h1; cases h; exact mustX_no h1
    · split at h
      · rename_i h1; cases h; exact valueX_no h1
      · cases h
theorem attrsX_no {k : Int} : ∀ (f : Nat) (met : List Pair) (l : List UInt8), attrsX f met l = .error k → k ≠ 0
  | 0, met, l, h => by rw [attrsX] at h; cases h
  | f + 1, met, l, h => by
    rw [attrsX] at h
    split at h
    · split at h
      · rename_i h1; cases h; exact attrX_no h1
      · split at h
        · cases h; decide
        · exact attrsX_no f _ _ h
    · cases h
theorem tagX_no {d : Nat} {l : List UInt8} {k : Int} (h : tagX d l = .error k) : k ≠ 0 := by
  unfold tagX at h
  split at h
  · rename_i h1; cases h; exact mustX_no h1
  · split at h
    · rename_i h1; cases h; exact titleX_no h1
    · split at h
      · cases h; decide
      · split at h
        · rename_i h1; cases h; exact attrsX_no _ _ _ h1
        · split at h
          · cases h
          · split at h
            · rename_i h1; cases h; exact mustX_no h1
            · cases h
theorem endX_no {n l : List UInt8} {k : Int} (h : endX n l = .error k) : k ≠ 0 := by
  unfold endX at h
  split at h
  · rename_i h1; cases h; exact mustX_no h1
  · split at h
    · rename_i h1; cases h; exact titleX_no h1
    · split at h
      · exact mustX_no h
      · cases h; decide
theorem pieceX_no {l : List UInt8} {k : Int} (h : pieceX l = .over (.error k) ∨ pieceX l = .said (.error k)) : k ≠ 0 := by
  unfold pieceX at h
  split at h
  · rcases h with h | h
    · injection h with h; injection h with h; subst h; decide
    · cases h
  · split at h
    · rename_i h1
      rcases h with h | h
      · injection h with h; injection h with h; subst h; exact remX_no h1
      · cases h
    · rcases h with h | h <;> cases h
    · split at h
      · rcases h with h | h
        · cases h
        · injection h with h; exact toX_no h
      · split at h
        · rcases h with h | h <;> cases h
        · rcases h with h | h
          · cases h
          · injection h with h; exact strictX_no h
theorem elX_no {k : Int} : ∀ f : Nat, (∀ (d : Nat) (l : List UInt8), elementX f d l = .error k → k ≠ 0) ∧ (∀ (d : Nat) (acc : Lst) (l : List UInt8), kidsX f d acc l = .error k → k ≠ 0) := by
  intro f
  induction f with
  | zero =>
    constructor
    · intro d l h; rw [elementX] at h; cases h; decide
    · intro d acc l h; rw [kidsX] at h; cases h; decide
  | succ f ih =>
    constructor
    · intro d l h
      rw [elementX] at h
      split at h
      · rename_i h1; cases h; exact tagX_no h1
      · cases h
      · split at h
        · rename_i h1; cases h; exact ih.2 _ _ _ h1
        · split at h
          · rename_i h1; cases h; exact endX_no h1
          · cases h
    · intro d acc l h
      rw [kidsX] at h
      split at h
      · cases h
      · split at h
        · rename_i h1; cases h; exact pieceX_no (.inl h1)
        · exact ih.2 _ _ _ h
        · rename_i h1; cases h; exact pieceX_no (.inr h1)
        · exact ih.2 _ _ _ h
        · split at h
          · rename_i h1; cases h; exact ih.1 _ _ h1
          · exact ih.2 _ _ _ h
theorem miscX_no {k : Int} : ∀ (f : Nat) (l : List UInt8), miscX f l = .error k → k ≠ 0
  | 0, l, h => by rw [miscX] at h; cases h
  | f + 1, l, h => by
    rw [miscX] at h
    split at h
    · exact miscX_no f _ h
    · split at h
      · cases h
      · rename_i h1; cases h; exact remX_no h1
      · exact miscX_no f _ h
theorem docX_no {l : List UInt8} {k : Int} (h : docX l = .error k) : k ≠ 0 := by
  unfold docX at h
  split at h
  · rename_i h1; cases h; exact miscX_no _ _ h1
  · split at h
    · rename_i h1; cases h; exact (elX_no _).1 _ _ h1
    · split at h
      · rename_i h1; cases h; exact miscX_no _ _ h1
      · cases h
      · cases h; decide
/-- What Read answers. -/
def readX (l : List UInt8) : Except Int Nd := if 3000 < l.length then .error 2 else docX l
theorem readX_no {l : List UInt8} {k : Int} (h : readX l = .error k) : k ≠ 0 := by
  unfold readX at h
  split at h
  · cases h; decide
  · exact docX_no h
theorem DocOut.parts {w w' : World} {n : Nd} {v : Value} (h : DocOut w n v w') : ∃ oa ca ok ck, v = .agg #[.string ⟨n.name.toArray⟩, .slice oa n.attrs.length ca, .string ⟨n.text.toArray⟩, .slice ok n.kids.length ck] ∧ LiesP w' (fun g => w.heap.size ≤ g) (.slice oa n.attrs.length ca) n.attrs.length 2 (pairCells n.attrs) ∧ Ns w' (fun g => w.heap.size ≤ g) (.slice ok n.kids.length ck) n.kids := h
/-- A node lies in a block, its lists in blocks that are P. -/
def NdAt (w : World) (g : Nat) (P : Nat → Prop) (n : Nd) : Prop :=
  ∃ oa ca ok ck, w.heap[g]? = some (.cells #[.string ⟨n.name.toArray⟩, .slice oa n.attrs.length ca, .string ⟨n.text.toArray⟩, .slice ok n.kids.length ck] 45 (0, 0)) ∧ LiesP w P (.slice oa n.attrs.length ca) n.attrs.length 2 (pairCells n.attrs) ∧ Ns w P (.slice ok n.kids.length ck) n.kids
def zeroN : Value := .agg #[.string ⟨#[]⟩, .slice none 0 0, .string ⟨#[]⟩, .slice none 0 0]
def zeroB (w : World) (g : Nat) : Prop := w.heap[g]? = some (.cells #[.string ⟨#[]⟩, .slice none 0 0, .string ⟨#[]⟩, .slice none 0 0] 45 (0, 0))
theorem enters99 : Enters 99 := enters_of Tryz.func99 (by kernel_rfl) (by kernel_rfl)
set_option maxRecDepth 4000 in
set_option maxHeartbeats 4000000 in
theorem read99 (r b p0 p1 : Nat) (s : ByteArray) (l : List UInt8) (w : World) (hs : s.size ≤ 3000) (hb0 : b ≠ 0) (h : Xr w r b s l) (hM : HasMax w) (h0 : w.heap[p0]? = some (.cells #[.pointer (some ⟨r, 0, none⟩)] 136 (0, 0))) (h1 : zeroB w p1) (hp : p1 ≠ b) :
    Calls Tryz.prog 99 #[.pointer (some ⟨p0, 0, none⟩), .pointer (some ⟨p1, 0, none⟩)] w fun e w' =>
      (e = .returned (.tuple #[]) ∧ (∃ n, docX l = .ok n ∧ NdAt w' p1 (fun g => w.heap.size ≤ g) n) ∨ ∃ k, e = .panicked (stopped k) ∧ docX l = .error k ∧ zeroB w' p1) ∧ Keeps [p1, b] w w' := by
  have c0 : w.cell? ⟨p0, 0, none⟩ = some (.pointer (some ⟨r, 0, none⟩)) := cell_blk h0 0
  have hd := hide (doc100 r b s l w hs hb0 h hM)
  have H1 := hide h1
  have hp1l := lt_of_block h1
  clear h hM h0 h1
  go_enter Tryz.func99, Tryz.ntmps99
  go_wp2_with fail
  refine hd.out.mono ?_
  rintro e w1 ⟨hg, hk1⟩
  have hb1 := (hk1.block _ (lt_of_block H1.out) (by simpa using hp)).trans H1.out
  rcases hg with ⟨n, hx, v, rfl, hD⟩ | ⟨k, hx, rfl⟩
  · obtain ⟨oa, ca, ok, ck, rfl, hLA, hNK⟩ := hD.parts
    have HX := hide hx
    have HLA := hide hLA
    have HNK := hide hNK
    have HB1 := hide hb1
    have z0 := cell_blk hb1 0
    have z1 := cell_blk hb1 1
    have z2 := cell_blk hb1 2
    have z3 := cell_blk hb1 3
    have g0 := free_blk hb1 0
    have g1 := free_blk hb1 1
    have g2 := free_blk hb1 2
    have g3 := free_blk hb1 3
    simp at z0 z1 z2 z3
    clear hx hD hLA hNK hb1
    go_wp2_with fail
    go_end0
    have hks := set4_keeps w1 p1 (.string ⟨n.name.toArray⟩) (.slice oa n.attrs.length ca) (.string ⟨n.text.toArray⟩) (.slice ok n.kids.length ck)
    exact ⟨.inl ⟨rfl, n, HX.out, oa, ca, ok, ck, set4_blk _ _ _ _ HB1.out, HLA.out.keeps hks (fun g hg hm => by simp at hm; omega), HNK.out.keeps hks (fun g hg hm => by simp at hm; omega)⟩, keeps_on (hk1.to (by simp)) hks (fun g hg _ => by simp at hg ⊢; exact .inl hg)⟩
  · exact ⟨rfl, .inr ⟨k, rfl, hx, hb1⟩, hk1.to (by simp)⟩
theorem end30 {tmps : Array Value} {W : World} {g : Nat} {cs : Array Value} {e : Int} {Q : Ending → World → Prop} (hp : tmps.getD 2 undef = .pointer (some ⟨g, 0, none⟩)) (he : tmps.getD 3 undef = .int .i64 e) (hg : W.heap[g]? = some (.cells cs 45 (0, 0))) (hc : cs.size = 4) (hQ : Q (.returned (.tuple #[.agg cs, .int .i64 e])) W) :
    bodyPost Tryz.prog Tryz.f30 Q Exit.ret { tmps := tmps, defers := [] } W := by
  refine ⟨rfl, .tuple #[.agg cs, .int .i64 e], ?_, hQ⟩
  have hp' : tmps[2]?.getD undef = .pointer (some ⟨g, 0, none⟩) := by simpa using hp
  have he' : tmps[3]?.getD undef = .int .i64 e := by simpa using he
  rw [results_cell_tmp (p := 2) (u := 3) (ty := 45) rfl]
  simp [asAddr, hp', he', run_loadVar_row W g 45 45 cs (0, 0) _ hg Tryz.underlying45 rfl (by rw [hc]; kernel_rfl), Result.andThen]
end Go.Proofs.YtlcljanibjdejaaGreat
namespace Go.Proofs.YtlcljanibjdejaaGreat
open Go.RowKit Go.Maps
set_option maxRecDepth 4000 in
set_option maxHeartbeats 4000000 in
theorem read30_long (l : List UInt8) (w : World) (hl : l.length ≤ maxLen) (h3 : 3000 < l.length) :
    Calls Tryz.prog 30 #[.string ⟨l.toArray⟩] w fun e w' => e = .returned (.tuple #[zeroN, .int .i64 2]) ∧ Keeps [] w w' := by
  unfold maxLen at hl
  have hd : decide ((3000 : Int) < ((⟨l.toArray⟩ : ByteArray).size : Int)) = true := by rw [str_size]; simp; omega
  rw [str_size] at hd
  have hbx := hide (heap_alloc_new w (.cells #[.string ⟨#[]⟩, .slice none 0 0, .string ⟨#[]⟩, .slice none 0 0] 45))
  clear h3
  go_enter Tryz.func30, Tryz.ntmps30
  go_wp2_with fail
  refine end30 (cs := #[.string ⟨#[]⟩, .slice none 0 0, .string ⟨#[]⟩, .slice none 0 0]) rfl rfl hbx.out rfl ⟨rfl, (Keeps.refl [] w).alloc _⟩
/-- Blocks made one behind the other. -/
theorem blk_old {w W : World} {o : Obj} {g : Nat} {x : Option Obj} (h : w.heap[g]? = x) (hg : g < w.heap.size) (hW : w.alloc o = W) : W.heap[g]? = x := by
  rw [← hW, Below.heap_alloc _ _ _ hg]; exact h
theorem blk_new {w W : World} {o : Obj} {k : Nat} (hk : w.heap.size = k) (hW : w.alloc o = W) : W.heap[k]? = some o ∧ W.heap.size = k + 1 := by
  subst hk; subst hW; exact ⟨heap_alloc_new w o, by simp⟩
set_option maxRecDepth 8000 in
set_option maxHeartbeats 8000000 in
theorem read30_short (l : List UInt8) (w : World) (hM : HasMax w) (h3 : ¬ 3000 < l.length) :
    Calls Tryz.prog 30 #[.string ⟨l.toArray⟩] w fun e w' =>
      ((∃ n v, docX l = .ok n ∧ e = .returned (.tuple #[v, .int .i64 0]) ∧ DocOut w n v w') ∨ (∃ k, docX l = .error k ∧ e = .returned (.tuple #[zeroN, .int .i64 k]))) ∧ Keeps [] w w' := by
  have hpos := hM.pos
  obtain ⟨W1, hW1⟩ : ∃ W1, w.alloc (.cells #[.string ⟨#[]⟩, .slice none 0 0, .string ⟨#[]⟩, .slice none 0 0] 45) = W1 := ⟨_, rfl⟩
  obtain ⟨W2, hW2⟩ : ∃ W2, W1.alloc (.cells #[.string ⟨l.toArray⟩, .int .i64 0] 181) = W2 := ⟨_, rfl⟩
  obtain ⟨W3, hW3⟩ : ∃ W3, W2.alloc (.cells #[.pointer (some ⟨w.heap.size + 1, 0, none⟩)] 138) = W3 := ⟨_, rfl⟩
  obtain ⟨W4, hW4⟩ : ∃ W4, W3.alloc (.cells #[.pointer (some ⟨w.heap.size + 1 + 1, 0, none⟩)] 136) = W4 := ⟨_, rfl⟩
  obtain ⟨W5, hW5⟩ : ∃ W5, W4.alloc (.cells #[.string ⟨#[]⟩, .slice none 0 0, .string ⟨#[]⟩, .slice none 0 0] 45) = W5 := ⟨_, rfl⟩
  have b1 := blk_new rfl hW1
  have b2 := blk_new b1.2 hW2
  have b3 := blk_new b2.2 hW3
  have b4 := blk_new b3.2 hW4
  have b5 := blk_new b4.2 hW5
  have hk1 : Keeps [] w W1 := by rw [← hW1]; exact (Keeps.refl [] w).alloc _
  have hk2 : Keeps [] w W2 := by rw [← hW2]; exact hk1.alloc _
  have hk3 : Keeps [] w W3 := by rw [← hW3]; exact hk2.alloc _
  have hk4 : Keeps [] w W4 := by rw [← hW4]; exact hk3.alloc _
  have hk5 : Keeps [] w W5 := by rw [← hW5]; exact hk4.alloc _
  have nn : ∀ g, g ∉ ([] : List Nat) := fun _ => List.not_mem_nil
  -- the five blocks in the last world
  have a1 : zeroB W5 w.heap.size := blk_old (blk_old (blk_old (blk_old b1.1 (by omega) hW2) (by omega) hW3) (by omega) hW4) (by omega) hW5
  have a2 : W5.heap[w.heap.size + 1]? = some (.cells #[.string ⟨l.toArray⟩, .int .i64 0] 181 (0, 0)) := blk_old (blk_old (blk_old b2.1 (by omega) hW3) (by omega) hW4) (by omega) hW5
  have a3 : W5.heap[w.heap.size + 1 + 1]? = some (.cells #[.pointer (some ⟨w.heap.size + 1, 0, none⟩)] 138 (0, 0)) := blk_old (blk_old b3.1 (by omega) hW4) (by omega) hW5
  have a4 : W5.heap[w.heap.size + 1 + 1 + 1]? = some (.cells #[.pointer (some ⟨w.heap.size + 1 + 1, 0, none⟩)] 136 (0, 0)) := blk_old b4.1 (by omega) hW5
  have a5 : zeroB W5 (w.heap.size + 1 + 1 + 1 + 1) := b5.1
  have hX : Xr W5 (w.heap.size + 1 + 1) (w.heap.size + 1) ⟨l.toArray⟩ l := ⟨a3, 0, Nat.zero_le _, by rw [List.drop_zero], a2⟩
  have hsz : (⟨l.toArray⟩ : ByteArray).size ≤ 3000 := by rw [str_size]; omega
  have hd : decide ((3000 : Int) < ((⟨l.toArray⟩ : ByteArray).size : Int)) = false := by simp; omega
  rw [str_size] at hd
  have hmf : ∀ (fn : Fn) (first cap : Array Value) (w : World), (Instr.makeFunc fn first cap).run Tryz.prog w = .ok (.func fn first cap) w := fun _ _ _ _ => rfl
  have hca := hide (caught_any 99 #[.pointer (some ⟨w.heap.size + 1 + 1 + 1, 0, none⟩), .pointer (some ⟨w.heap.size + 1 + 1 + 1 + 1, 0, none⟩)]
    (fun w2 => ∃ n, docX l = .ok n ∧ NdAt w2 (w.heap.size + 1 + 1 + 1 + 1) (fun g => W5.heap.size ≤ g) n) (fun k w2 => docX l = .error k ∧ zeroB w2 (w.heap.size + 1 + 1 + 1 + 1)) [w.heap.size + 1 + 1 + 1 + 1, w.heap.size + 1] W5 enters99
    (fun i hi => by simp at hi; omega)
    (fun w2 w3 hp ⟨n, h1, oa, ca, ok, ck, h2, h3, h4⟩ hk => ⟨n, h1, oa, ca, ok, ck, (hk.block _ (lt_of_block h2) (by simp; omega)).trans h2, h3.keepsInt rfl hp hk, h4.keepsInt hp hk⟩)
    (fun k w2 w3 _ ⟨h1, h2⟩ hk => ⟨h1, (hk.block _ (lt_of_block h2) (by simp; omega)).trans h2⟩)
    (fun w1 hkw _ => (read99 (w.heap.size + 1 + 1) (w.heap.size + 1) (w.heap.size + 1 + 1 + 1) (w.heap.size + 1 + 1 + 1 + 1) ⟨l.toArray⟩ l w1 hsz (by omega) (hX.keeps0 hkw) (hM.keeps (hk5.trans hkw) (nn _)) ((hkw.block _ (lt_of_block a4) (nn _)).trans a4) ((hkw.block _ (lt_of_block a5) (nn _)).trans a5) (by omega)).mono
      (fun e w2 h9 => ⟨h9.1.elim (fun ⟨he, n, h1, oa, ca, ok, ck, h2, h3, h4⟩ => .inl ⟨he, n, h1, oa, ca, ok, ck, h2, h3.mono (fun g _ hg => Nat.le_trans hkw.size hg), h4.mono (fun g _ hg => Nat.le_trans hkw.size hg)⟩) (fun ⟨k, he, h1, h2⟩ => .inr ⟨k, he, h1, h2⟩), h9.2⟩)))
  have HW1 := hide hW1
  have HW2 := hide hW2
  have HW3 := hide hW3
  have HW4 := hide hW4
  have HW5 := hide hW5
  have A1 := hide a1
  have HK5 := hide hk5
  have e1 := b1.2
  have e2 := b2.2
  have e3 := b3.2
  have e4 := b4.2
  have e5 := b5.2
  have hkS : ∀ w2, Keeps [w.heap.size + 1 + 1 + 1 + 1, w.heap.size + 1] W5 w2 → Keeps [] w w2 := fun w2 hk => keeps_on hk5 hk (fun g hg hlt => by simp at hg; omega)
  clear h3 a1 a2 a3 a4 a5 hX hk1 hk2 hk3 hk4 hk5 hW1 hW2 hW3 hW4 hW5 b1 b2 b3 b4 b5 hM hpos hsz
  go_enter Tryz.func30, Tryz.ntmps30
  go_upto_region 1 with fail
  rw [HW1.out]
  go_wp2_with (go_at_call 76; refine (new_any _ _).mono ?_; rintro e w9 ⟨rfl, h9⟩; rw [HW2.out] at h9; obtain rfl : W2 = w9 := h9.symm)
  rw [HW3.out, HW4.out, HW5.out]
  refine hca.out.mono ?_
  rintro e w6 ⟨⟨rfl, n, hx, oa, ca, ok, ck, hb, hLA, hNK⟩ | ⟨k, rfl, hx, hb⟩, hk6⟩
  · have hb0 := (hk6.block _ (lt_of_block A1.out) (by simp; omega)).trans A1.out
    have HX := hide hx
    have HB0 := hide hb0
    have HLA := hide hLA
    have HNK := hide hNK
    have y0 := cell_blk hb 0
    have y1 := cell_blk hb 1
    have y2 := cell_blk hb 2
    have y3 := cell_blk hb 3
    have z0 := cell_blk hb0 0
    have z1 := cell_blk hb0 1
    have z2 := cell_blk hb0 2
    have z3 := cell_blk hb0 3
    have g0 := free_blk hb0 0
    have g1 := free_blk hb0 1
    have g2 := free_blk hb0 2
    have g3 := free_blk hb0 3
    simp at y0 y1 y2 y3 z0 z1 z2 z3
    have HK6 := hide (hkS _ hk6)
    clear hx hb hb0 hLA hNK hk6
    go_wp2_with fail
    have hks := set4_keeps w6 w.heap.size (.string ⟨n.name.toArray⟩) (.slice oa n.attrs.length ca) (.string ⟨n.text.toArray⟩) (.slice ok n.kids.length ck)
    have e5' := e5
    refine end30 (cs := #[.string ⟨n.name.toArray⟩, .slice oa n.attrs.length ca, .string ⟨n.text.toArray⟩, .slice ok n.kids.length ck]) rfl rfl (set4_blk _ _ _ _ HB0.out) rfl ⟨.inl ⟨n, _, HX.out, rfl, oa, ca, ok, ck, rfl, ?_, ?_⟩, keeps_on HK6.out hks (fun g hg hlt => by simp at hg; omega)⟩
    · exact (HLA.out.keeps hks (fun g hg hm => by simp at hm; omega)).mono (fun g _ hg => by omega)
    · exact (HNK.out.keeps hks (fun g hg hm => by simp at hm; omega)).mono (fun g _ hg => by omega)
  · have hb0 := (hk6.block _ (lt_of_block A1.out) (by simp; omega)).trans A1.out
    have HX := hide hx
    have HB0 := hide hb0
    unfold zeroB at hb
    have y0 := cell_blk hb 0
    have y1 := cell_blk hb 1
    have y2 := cell_blk hb 2
    have y3 := cell_blk hb 3
    have z0 := cell_blk hb0 0
    have z1 := cell_blk hb0 1
    have z2 := cell_blk hb0 2
    have z3 := cell_blk hb0 3
    have g0 := free_blk hb0 0
    have g1 := free_blk hb0 1
    have g2 := free_blk hb0 2
    have g3 := free_blk hb0 3
    simp at y0 y1 y2 y3 z0 z1 z2 z3
    have HK6 := hide (hkS _ hk6)
    clear hx hb hb0 hk6
    go_wp2_with fail
    have hks := set4_keeps w6 w.heap.size (.string ⟨#[]⟩) (.slice none 0 0) (.string ⟨#[]⟩) (.slice none 0 0)
    refine end30 (cs := #[.string ⟨#[]⟩, .slice none 0 0, .string ⟨#[]⟩, .slice none 0 0]) rfl rfl (set4_blk _ _ _ _ HB0.out) rfl ⟨.inr ⟨k, HX.out, rfl⟩, keeps_on HK6.out hks (fun g hg hlt => by simp at hg; omega)⟩
theorem xmlRead_any (l : List UInt8) (w : World) (hM : HasMax w) (hl : l.length ≤ maxLen) :
    Calls Tryz.prog 30 #[.string ⟨l.toArray⟩] w fun e w' =>
      ((∃ n v, readX l = .ok n ∧ e = .returned (.tuple #[v, .int .i64 0]) ∧ DocOut w n v w') ∨ (∃ k, readX l = .error k ∧ e = .returned (.tuple #[zeroN, .int .i64 k]))) ∧ Keeps [] w w' := by
  unfold readX
  by_cases h3 : 3000 < l.length
  · rw [if_pos h3]
    exact (read30_long l w hl h3).mono (fun e w' h => ⟨.inr ⟨2, rfl, h.1⟩, h.2⟩)
  · rw [if_neg h3]
    exact read30_short l w hM h3
end Go.Proofs.YtlcljanibjdejaaGreat

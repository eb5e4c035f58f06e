/- dateBegun. -/
import Derived.Test.YtngojdajamgabadDoorDateMath
namespace Go.Proofs.YtngojdajamgabadDoor
open Go.RowKit

/-- The table that Itoa reads is there, now and later. -/
def HasTab (w : World) : Prop := ∀ w', Keeps [] w w' → Lib.TabIs Tryd.prog w' "internal/strconv.uint64pow10" .u64 Lib.pow10Tab
theorem HasTab.keeps {w w' : World} (h : HasTab w) (hk : Keeps [] w w') : HasTab w' := fun w2 hk2 => h w2 (hk.trans hk2)

theorem begun_web : ansL (webL [50, 48, 48, 48, 45, 48, 50, 45, 50, 57, 84, 49, 50, 58, 51, 48, 58, 48, 48, 43, 48, 49, 58, 51, 48]) 25 = (951822000, 0) := by kernel_rfl
theorem begun_mail : ansL (mailL [84, 117, 101, 44, 32, 50, 57, 32, 70, 101, 98, 32, 50, 48, 48, 48, 32, 49, 49, 58, 48, 48, 58, 48, 48, 32, 71, 77, 84]) 29 = (951822000, 0) := by kernel_rfl
theorem begun_bad : ansL (webL [49, 57, 57, 57, 45, 48, 50, 45, 50, 57, 84, 48, 48, 58, 48, 48, 58, 48, 48, 90]) 20 = (0, 3) := by kernel_rfl
theorem begun_day : IsDay (951822000 / 86400) 2000 2 29 := by
  refine ⟨by omega, by omega, by omega, by omega, by omega, ?_, ?_⟩
  · exact Nat.le_of_ble_eq_true (by kernel_rfl)
  · kernel_rfl
theorem begun_stamp : stamp 2000 2 29 (951822000 % 86400) = [50, 48, 48, 48, 45, 48, 50, 45, 50, 57, 84, 49, 49, 58, 48, 48, 58, 48, 48, 90] := by kernel_rfl

theorem web_of (l : List UInt8) (p : Int × Int) (h : ansL (webL l) l.length = p) (hl : l.length ≤ 3000) (w : World) :
    Calls Tryd.prog 4 #[.string ⟨l.toArray⟩] w fun e w' => e = .returned (.tuple #[.int .i64 p.1, .int .i64 p.2]) ∧ Keeps [] w w' := by
  have := Web_any ⟨l.toArray⟩ w (by show l.length ≤ _; omega)
  rw [show (⟨l.toArray⟩ : ByteArray).data.toList = l from rfl, show (⟨l.toArray⟩ : ByteArray).size = l.length from rfl, h] at this
  exact this
theorem mail_of (l : List UInt8) (p : Int × Int) (h : ansL (mailL l) l.length = p) (hl : l.length ≤ 3000) (w : World) :
    Calls Tryd.prog 5 #[.string ⟨l.toArray⟩] w fun e w' => e = .returned (.tuple #[.int .i64 p.1, .int .i64 p.2]) ∧ Keeps [] w w' := by
  have := Mail_any ⟨l.toArray⟩ w (by show l.length ≤ _; omega)
  rw [show (⟨l.toArray⟩ : ByteArray).data.toList = l from rfl, show (⟨l.toArray⟩ : ByteArray).size = l.length from rfl, h] at this
  exact this

set_option maxRecDepth 100000 in
set_option maxHeartbeats 2000000 in
theorem dateBegun_any (w : World) (ht : HasTab w) : Calls Tryd.prog 10 #[] w fun e w' => e = .returned (.bool true) ∧ Keeps [] w w' := by
  have h1 := hide (web_of _ _ begun_web (by decide))
  have h2 := hide (mail_of _ _ begun_mail (by decide))
  have h4 := hide (web_of _ _ begun_bad (by decide))
  have h3 := hide (fun (w1 : World) (hk : Keeps [] w w1) => print_yes 951822000 w1 (by omega) (ht.keeps hk))
  have hda := hide (fun y m d (h : IsDay (951822000 / 86400) y m d) => (day_order h begun_day).2 rfl)
  have hst := hide begun_stamp
  go_enter Tryd.func10, Tryd.ntmps10
  go_wp2_with fail
  refine (h1.out _).mono ?_
  rintro e w1 ⟨rfl, hk1⟩
  go_wp2_with fail
  refine (h2.out _).mono ?_
  rintro e w2 ⟨rfl, hk2⟩
  go_wp2_with fail
  refine (h3.out _ (hk1.trans hk2)).mono ?_
  rintro e w3 ⟨y, m, d, hd, rfl, hk3⟩
  obtain ⟨rfl, rfl, rfl⟩ := hda.out y m d hd
  rw [hst.out]
  clear hd
  go_wp2_with fail
  refine (h4.out _).mono ?_
  rintro e w4 ⟨rfl, hk4⟩
  go_wp2_with fail
  go_ret
  exact ⟨rfl, ((hk1.trans hk2).trans hk3).trans hk4⟩
end Go.Proofs.YtngojdajamgabadDoor

/-
  THE WALK OF DevNone: what the program's methods must answer where there is no device.
-/
import Derived.Test.YtgmgojpkjchmcaaDevOne
import Derived.Outline
namespace Go.Proofs.Ytgmgojpkjchmcaa
open Go Go.RowKit Go.Joins

structure NilOK : Prop where
  read : ∀ w : World, Calls Try.prog 17 #[.pointer none, .int .i64 0] w fun e w' => ∃ v, e = .returned (.tuple #[v, .int .i64 8]) ∧ Keeps (fun _ => True) w w'
  len : ∀ w : World, Calls Try.prog 21 #[.pointer none] w fun e w' => e = .returned (.int .i64 0) ∧ w = w'
  write : ∀ w : World, Calls Try.prog 13 #[.pointer none, .int .i64 0, .slice none 0 0] w fun e w' => e = .returned (.int .i64 8) ∧ Keeps (fun _ => True) w w'
  flush : ∀ w : World, Calls Try.prog 15 #[.pointer none] w fun e w' => e = .returned (.int .i64 8) ∧ Keeps (fun _ => True) w w'
  loose : ∀ w : World, Calls Try.prog 22 #[.pointer none] w fun e w' => ∃ A c, e = .returned (.slice A 0 c) ∧ Keeps (fun _ => True) w w'
  calls : ∀ w : World, Calls Try.prog 23 #[.pointer none] w fun e w' => e = .returned (.int .i64 0) ∧ w = w'
  crash : ∀ (w : World) (b : Nat), w.cell? ⟨b, 0, none⟩ = some (.bool true) → Calls Try.prog 18 #[.pointer none, .slice (some ⟨b, 0, none⟩) 1 1] w fun e w' => e = .returned (.pointer none) ∧ Keeps (fun _ => True) w w'

namespace devNone
set_option maxRecDepth 100000 in
set_option maxHeartbeats 2000000 in
theorem walk (D : DevOK) (N : NilOK) (w : World) : Calls Try.prog 6 #[] w fun e w' => e = .returned (.bool true) ∧ Below w.heap.size w w' := by
  go_enter Try.func6, Try.ntmps6
  go_wp2_with fail
  refine (N.read _).mono ?_
  rintro e w1 ⟨v, rfl, hk1⟩
  have HK1 := Lib.hid hk1
  clear hk1
  go_wp2_with fail
  refine (begun_any D _).mono ?_
  rintro e w2 ⟨rfl, hk2⟩
  have HK2 := Lib.hid (HK1.out.trans hk2)
  clear hk2
  go_wp2_with fail
  refine (N.len _).mono ?_
  rintro e w' ⟨rfl, rfl⟩
  go_wp2_with fail
  refine (N.write _).mono ?_
  rintro e w3 ⟨rfl, hk3⟩
  have HK3 := Lib.hid (HK2.out.trans hk3)
  clear hk3
  go_wp2_with fail
  refine (N.flush _).mono ?_
  rintro e w4 ⟨rfl, hk4⟩
  have HK4 := Lib.hid (HK3.out.trans hk4)
  clear hk4
  go_wp2_with fail
  refine (N.loose _).mono ?_
  rintro e w5 ⟨A, c, rfl, hk5⟩
  have HK5 := Lib.hid (HK4.out.trans hk5)
  clear hk5
  go_wp2_with fail
  refine (N.calls _).mono ?_
  rintro e w' ⟨rfl, rfl⟩
  go_wp2_with fail
  refine (N.crash _ _ (by rw [World.cell?_alloc_new]; rfl)).mono ?_
  rintro e w6 ⟨rfl, hk6⟩
  have HK6 := Lib.hid ((HK5.out.alloc _).trans hk6)
  clear hk6
  go_wp2_with fail
  go_ret
  exact ⟨rfl, HK6.out.below⟩
end devNone
end Go.Proofs.Ytgmgojpkjchmcaa

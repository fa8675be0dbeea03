/-
  THE CONTRACTS OF LAYER 3 (crc) AND OF ITS REFERENCE: addPart, Sum (in however many parts), the reference's Sum.
  Conditions: the table of half bytes reads as the program's text lays it ('Taken').
-/
import Derived.Test.YtajapklpdfikoaaDoorCrcMath
import Derived.Test.YtajapklpdfikoaaDoorWords
import Derived.Test.YtajapklpdfikoaaDoorProg
import Derived.WalkKit
import Derived.Lib.Hide
import Derived.Laws.BitsAllLaws
namespace Go.Proofs.YtajapklpdfikoaaDoor
open Go Go.RowKit

/-- The table of half bytes. -/
def Taken (w : World) : Prop := ∀ i, i < 16 → w.cell? ⟨0, i, none⟩ = some (.int .u32 ((tbits 4 i : Nat) : Int))
theorem Taken.keep {w w' : World} (h : Taken w) (hk : Keeps (fun _ => True) w w') : Taken w' := fun i hi => hk.cell (h i hi) trivial
theorem Taken.below {w w' : World} (h : Taken w) (hk : Below w.heap.size w w') : Taken w' := h.keep (Keeps.of_below hk _)
theorem Taken.alloc {w : World} (h : Taken w) (o : Obj) : Taken (w.alloc o) := h.keep ((Keeps.refl _ w).alloc o)

theorem ret_u32 {a b : Int} (h : a = b) : Ending.returned (.int .u32 a) = .returned (.int .u32 b) := by rw [h]
/-- One half byte. -/
def half (x : Nat) : Nat := x / 16 ^^^ tbits 4 (x % 16)
theorem half_tbits (x : Nat) : half x = tbits 4 x := by
  unfold half; rw [tbits_table 4 x, Nat.xor_comm]
theorem half_lt (x : Nat) (h : x < 4294967296) : half x < 4294967296 := by rw [half_tbits]; exact tbits_lt 4 x h
theorem half_half (x : Nat) : half (half x) = t8 x := by rw [half_tbits, half_tbits]; exact (tbits_add 4 4 x).symm
theorem half_z (x : Nat) (h : x < 4294967296) : bits .xor .u32 ((x : Int) / 16) ((tbits 4 (x % 16) : Nat) : Int) = ((half x : Nat) : Int) := by
  have e : (x : Int) / 16 = ((x / 16 : Nat) : Int) := rfl
  rw [e]
  exact u32_xor_nat _ _ (by omega) (tbits_lt 4 _ (by omega))
theorem in_z (c : Nat) (b : UInt8) (h : c < 4294967296) : bits .xor .u32 (c : Int) (b.toNat : Int) = ((c ^^^ b.toNat : Nat) : Int) := u32_xor_nat _ _ h (byte_lt32 b)
theorem crcF_next (c : Nat) (l : List UInt8) (k : Nat) (h : k < l.length) : crcF c (l.take (k + 1)) = half (half (crcF c (l.take k) ^^^ l[k].toNat)) := by
  rw [List.take_succ_eq_append_getElem h, crcF_snoc, half_half]

set_option maxHeartbeats 400000 in
theorem add_part (c : Nat) (hc : c < 4294967296) (A : Option Addr) (cap : Nat) (F : Nat → Prop) (l : List UInt8) (w : World) (h : Row w A F (bcells l)) (hl : l.length ≤ maxLen) (hT : Taken w) :
    Calls Tryd.prog 90 #[.int .u32 (c : Int), .slice A l.length cap] w fun e w' => e = .returned (.int .u32 ((crcF c l : Nat) : Int)) ∧ w = w' := by
  unfold maxLen at hl
  have HT := Lib.hid hT
  have HC := Lib.hid hc
  clear hT hc
  go_enter Tryd.func90, Tryd.ntmps90
  go_wp2
  go_loop [0, 9] (fun t i => ∃ k : Nat, k ≤ l.length ∧ i = .int .i64 k ∧ t = .int .u32 ((crcF c (l.take k) : Nat) : Int)) (fun _ i => l.length - (intOf i).toNat)
  case atStart => exact ⟨0, Nat.zero_le _, rfl, rfl⟩
  case round =>
    obtain ⟨k, hk, rfl, rfl⟩ := hrel
    by_cases hlt : k < l.length
    · obtain ⟨b, o, rfl, _, hcell⟩ := h.at_ (k := k) (by simpa [bcells] using hlt)
      simp only [bcells, List.getElem_map, bcell] at hcell
      have H := Lib.hid (crcF_next c l k hlt)
      have hx := crcF_lt (l.take k) c HC.out
      have hb := byte_lt32 l[k]
      generalize crcF c (l.take k) = x at H hx
      have e1 := in_z x l[k] hx
      have hy : x ^^^ l[k].toNat < 4294967296 := xor_lt32 hx hb
      generalize x ^^^ l[k].toNat = y at H e1 hy
      have e2 := half_z y hy
      have hz := half_lt y hy
      have c1 := HT.out (y % 16) (Nat.mod_lt _ (by decide))
      generalize half y = z at H e2 hz
      have e3 := half_z z hz
      have c2 := HT.out (z % 16) (Nat.mod_lt _ (by decide))
      clear h
      go_wp2
      go_round
      case rel => exact ⟨k + 1, by omega, by go_num, by rw [H.out]⟩
      case measure => simp [intOf]; omega
    · obtain rfl : k = l.length := by omega
      rw [List.take_length]
      go_wp2
      go_ret
      exact ⟨rfl, rfl⟩

def joined (ps : List Part) : List UInt8 := ps.flatMap (·.l)
theorem joined_next (c : Nat) (ps : List Part) (k : Nat) (h : k < ps.length) : crcF c (joined (ps.take (k + 1))) = crcF (crcF c (joined (ps.take k))) ps[k].l := by
  unfold joined
  rw [List.take_succ_eq_append_getElem h, List.flatMap_append, crcF_append]; simp
theorem u32_compl (x : Nat) (h : x < 4294967296) : bits .xor .u32 4294967295 (x : Int) = ((4294967295 - x : Nat) : Int) := by
  have e := u32_xor_nat 4294967295 x (by decide) h
  rw [not_xor x h, Nat.xor_comm, ← e]; rfl

set_option maxHeartbeats 400000 in
theorem sum_any (B : Option Addr) (d : Nat) (F G : Nat → Prop) (ps : List Part) (w : World) (hB : Row w B G (ps.map Part.val)) (hp : Parts w F ps) (hn : ps.length ≤ maxLen) (hT : Taken w) :
    Calls Tryd.prog 76 #[.slice B ps.length d] w fun e w' => e = .returned (.int .u32 ((crcN (joined ps) : Nat) : Int)) ∧ w = w' := by
  unfold maxLen at hn
  have HT := Lib.hid hT
  have HP := Lib.hid hp
  clear hT hp
  go_enter Tryd.func76, Tryd.ntmps76
  go_wp2
  go_loop [3, 8] (fun t i => ∃ k : Nat, k ≤ ps.length ∧ i = .int .i64 k ∧ t = .int .u32 ((crcF 4294967295 (joined (ps.take k)) : Nat) : Int)) (fun _ i => ps.length - (intOf i).toNat)
  case atStart => exact ⟨0, Nat.zero_le _, rfl, rfl⟩
  case round =>
    obtain ⟨k, hk, rfl, rfl⟩ := hrel
    have hx := crcF_lt (joined (ps.take k)) 4294967295 (by decide)
    by_cases hlt : k < ps.length
    · obtain ⟨b, o, rfl, _, hcell⟩ := hB.at_ (k := k) (by simpa using hlt)
      simp only [List.getElem_map, Part.val] at hcell
      have H := Lib.hid (joined_next 4294967295 ps k hlt)
      have hpart := HP.out ps[k] (List.getElem_mem hlt)
      generalize crcF 4294967295 (joined (ps.take k)) = x at H hx
      generalize ps[k] = p at H hpart hcell
      have h1 := Lib.hid hpart.1
      have h2 := hpart.2
      clear hB hpart
      go_wp2_with (go_at_call 90; ((with_reducible refine (add_part x hx _ _ F p.l _ h1.out h2 HT.out).mono ?_); rintro e w' ⟨rfl, rfl⟩))
      go_round
      case rel => exact ⟨k + 1, by omega, by go_num, by rw [H.out]⟩
      case measure => simp [intOf]; omega
    · obtain rfl : k = ps.length := by omega
      rw [List.take_length] at hx ⊢
      have e : bits .xor .u32 4294967295 ((crcF 4294967295 (joined ps) : Nat) : Int) = ((crcN (joined ps) : Nat) : Int) := u32_compl _ hx
      generalize crcF 4294967295 (joined ps) = x at e hx
      have H := Lib.hid e
      clear e
      go_wp2
      go_ret
      exact ⟨ret_u32 H.out, rfl⟩

theorem tbits_next (k c : Nat) : tbits (k + 1) c = tbit (tbits k c) := by rw [tbits_add k 1 c]; rfl

end Go.Proofs.YtajapklpdfikoaaDoor

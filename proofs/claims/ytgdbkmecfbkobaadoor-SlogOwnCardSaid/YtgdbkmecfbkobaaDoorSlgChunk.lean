/-
  THE PROGRAM's LOG: slices.Chunk of bytes: its iterator's contract.
-/
import Derived.RangeFuncBox
import Derived.RangeFuncLeaves
import Derived.RangeFuncNested
import Derived.RangeFuncBound
import Derived.RangeFuncCalls
import Derived.Shelf.Abstract
import Derived.Shelf.RegionOpen
import Derived.OwnWalkIn
import Derived.TacticsInMore
import Derived.LoopNIn
import Derived.LoopIn
import Derived.Lib.MinMax
import Derived.Lib.SmallJoins
import Derived.Lib.Hide
import Derived.Test.YtgdbkmecfbkobaaDoorAllInvs
import Derived.Test.YtgdbkmecfbkobaaDoorSlgMath
namespace Go.Proofs.YtgdbkmecfbkobaaDoor
open Go Go.RowKit Go.Joins Go.Shelf

attribute [local go_sem] Oper.semAt_some

/-- How many chunks; how long the k-th one is. -/
def chunks (len : Nat) : Nat := (len + 52) / 53
def chLen (len k : Nat) : Nat := min 53 (len - 53 * k)
/-- The k-th chunk, as a value. -/
def encCh (g o len k : Nat) : Array Value := #[.slice (some ⟨g, o + 53 * k, none⟩) (chLen len k) (chLen len k)]
/-- What a round keeps. -/
def KpB (Bs Bn : Nat) (W W' : World) : Prop := Keeps (fun b => b = Bs ∨ b = Bn) W W'

set_option maxRecDepth 100000 in
set_option maxHeartbeats 1000000 in
theorem chunk1_in (F : Fence) (n : Nat) (hfn : F.fn 64) (hro : F.round = none) (hn : 1 ≤ n) (l Bs Bn g o len cap : Nat) (hlc : len ≤ cap) (hlm : len ≤ 1000000000000) (J Jx : List Nat → World → Prop) (hJd : ∀ s W, J s W → J s W.drew)
    (hY : ∀ pre x W, J pre W → pre.length < chunks len → YieldAt F (n - 1) Tryd.prog l (encCh g o len x) W fun e W' =>
      (e = .returned (.bool true) ∧ J (pre ++ [x]) W' ∧ KpB Bs Bn W W') ∨ (e = .returned (.bool false) ∧ Jx (pre ++ [x]) W'))
    (W : World) (hBs : W.cell? ⟨Bs, 0, none⟩ = some (.slice (some ⟨g, o, none⟩) len cap)) (hBn : W.cell? ⟨Bn, 0, none⟩ = some (.int .i64 53)) (h0 : J [] W) :
    CallsIn F n Tryd.prog 64 #[.func (.yield l) #[] #[], .pointer (some ⟨Bs, 0, none⟩), .pointer (some ⟨Bn, 0, none⟩)] W fun e W' => (∃ v, e = .returned v) ∧
      ((∃ ys, ys = List.range (chunks len) ∧ J ys W') ∨ (∃ pre, (∃ k, k ≤ chunks len ∧ pre = List.range k) ∧ Jx pre W')) := by
  refine callsIn_of_wp Tryd.func64 rfl hfn ?_ hro
  simp only [Tryd.ntmps64, List.size_toArray, List.length_cons, List.length_nil, Nat.reduceAdd, Nat.reduceSub, Array.replicate_succ, Array.replicate_zero, List.push_toArray, List.append_toArray, List.nil_append, List.cons_append]
  have HY := Lib.hid hY
  have HBs := Lib.hid hBs
  have HBn := Lib.hid hBn
  clear hY hBs hBn
  gi_wp2
  gi_loopw [4] (fun vi wr => ∃ k i : Nat, RowKit.Hid (i = 53 * k) ∧ k ≤ chunks len ∧ vi = .int .i64 i ∧ J (List.range k) wr ∧ KpB Bs Bn W wr)
    (fun vi _ => len + 53 - (intOf vi).toNat)
  case atStart => exact ⟨0, 0, Lib.hid rfl, Nat.zero_le _, rfl, h0, Keeps.refl _ _⟩
  case round =>
    obtain ⟨k, i, hi, hk, rfl, hJs, hkp⟩ := hrel
    have cs := hkp.cell HBs.out (.inl rfl)
    have cn := hkp.cell HBn.out (.inr rfl)
    by_cases hlt : k < chunks len
    · have hil : i < len := by have := hi.out; unfold chunks at hlt; omega
      obtain ⟨e, he⟩ : ∃ e, chLen len k = e := ⟨_, rfl⟩
      obtain ⟨fn, tmps, assign, body, hy, hR⟩ := HY.out _ k wr.drew (hJd _ _ hJs) (by rw [List.length_range]; exact hlt)
      have hee : e = min 53 (len - i) := by rw [← he, hi.out]; rfl
      have hHI := Lib.hid hi.out
      have hy' : (Instr.yield l #[.slice (some ⟨g, o + i, none⟩) e e]).run Tryd.prog wr.drew = .ok (.round l fn tmps assign body) wr.drew := by
        have h := hy
        unfold encCh at h
        rw [he, ← hi.out] at h
        exact h
      have hmin : min (53 : Int) ((len - i : Nat) : Int) = (e : Int) := by omega
      have hne : ¬ cap = i := by omega
      have h1 : i ≤ len := by omega
      have h2 : i ≤ cap := by omega
      have h3 : i + e ≤ cap := by omega
      have h4 : i ≤ i + e := by omega
      have HEE := Lib.hid hee
      have HK := Lib.hid hkp
      clear hy he hee hi hkp
      gi_wp2
      gi_region
      all_goals gi_wp2
      all_goals refine hR.mono ?_
      all_goals rintro e' W3 (⟨rfl, hJ3, hk3⟩ | ⟨rfl, hJx3⟩)
      all_goals first
        | (have cs := hk3.cell cs (.inl rfl)
           have cn := hk3.cell cn (.inr rfl)
           gi_wp2
           go_roundw
           case rel => exact ⟨k + 1, i + 53, Lib.hid (by have := hHI.out; omega), by omega, by go_num, by rw [List.range_succ]; exact hJ3, HK.out.drew.trans hk3⟩
           case measure => simp [intOf]; omega)
        | (gi_wp2
           refine bodyPost_ret (results_none rfl _ _ _) rfl ?_
           exact ⟨⟨_, rfl⟩, .inr ⟨_, ⟨k + 1, by omega, (List.range_succ).symm⟩, hJx3⟩⟩)
    · obtain rfl : k = chunks len := by omega
      have hil : ¬ (i : Int) < (len : Int) := by have := hi.out; unfold chunks at this; omega
      gi_wp2
      go_end0
      exact ⟨⟨_, rfl⟩, .inl hJs⟩

end Go.Proofs.YtgdbkmecfbkobaaDoor

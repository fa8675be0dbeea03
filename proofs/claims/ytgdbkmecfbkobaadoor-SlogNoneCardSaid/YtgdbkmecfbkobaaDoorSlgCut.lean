/-
  THE PROGRAM's LOG: cut, body: one record.
-/
import Derived.Test.YtgdbkmecfbkobaaDoorSlgParse
import Derived.Test.YtgdbkmecfbkobaaDoorAllBase
namespace Go.Proofs.YtgdbkmecfbkobaaDoor
open Go Go.RowKit Go.Joins

/-- Bytes that a call has laid, that may be written. -/
def BodyV (w w' : World) (v : Value) (l : List UInt8) : Prop := ∃ A c, v = .slice A l.length c ∧ l.length ≤ c ∧ c ≤ maxLen ∧ Row w' A (fun b => w.heap.size ≤ b ∧ b < w'.heap.size) (bcells l) ∧ Mine w' .u8 A l.length
theorem BodyV.from {w0 w w' : World} {v : Value} {l : List UInt8} (h : BodyV w w' v l) (hs : w0.heap.size ≤ w.heap.size) : BodyV w0 w' v l := by
  obtain ⟨A, c, e, h1, h2, hr, hm⟩ := h
  exact ⟨A, c, e, h1, h2, hr.mono fun b _ hb => ⟨Nat.le_trans hs hb.1, hb.2⟩, hm⟩
/-- '[]byte(s)'. -/
theorem conv_body (w : World) (x : List UInt8) (hx : x.length ≤ 70000) : ∃ w1 v, (convert 9 31 (.string (txt x))).run Tryd.prog w = .ok v w1 ∧ BodyV w w1 v x ∧ Keeps (fun _ => True) w w1 := by
  have h := run_bytes_of_string (P := Tryd.prog) w 9 31 5 (txt x) Tryd.underlying9 Tryd.underlying31 Tryd.underlying5
  rw [txt_size] at h
  have hcell : ∀ i v, (bcells x)[i]? = some v → (bytesRow (txt x) (grownCap w x.length 0 5))[i]? = some v := fun i v hv => by
    have hi : i < x.length := by
      have := (List.getElem?_eq_some_iff.1 hv).1
      rwa [bcells_len] at this
    unfold bytesRow
    rw [Array.getElem?_append_left (by simpa [txt] using hi), ← hv]
    simp [bcells, txt]
    rfl
  have hsz : x.length ≤ (bytesRow (txt x) (grownCap w x.length 0 5)).size := by
    unfold bytesRow; simp [txt]
  refine ⟨_, _, h, ⟨_, _, rfl, grownCap_ge w _ _ _, grownCap_le_maxLen w _ _ _ (by unfold maxLen; omega), ?_, ?_⟩, ((Keeps.refl _ w).drew).alloc _⟩
  · intro _
    refine ⟨_, 0, rfl, ⟨Nat.le_refl _, by simp⟩, fun i v hv => ?_⟩
    rw [Nat.zero_add]
    exact (cell_alloc_mark_at w.drew _ _ _ w.heap.size i rfl).trans (hcell i v hv)
  · intro _
    refine ⟨w.heap.size, 0, _, _, _, rfl, heap_alloc_new w.drew _, fun i hi => ⟨?_, ?_⟩⟩
    · rw [Nat.zero_add]
      have hv : (bcells x)[i]? = some (bcell x[i]) := by simp [bcells, hi]
      exact ⟨_, hcell i _ hv⟩
    · rw [Nat.zero_add]
      refine (World.frozen?_alloc_mark w.drew _ _ _ _ i).trans ?_
      have : ¬ (bytesRow (txt x) (grownCap w x.length 0 5)).size ≤ i := by omega
      simp [this]

set_option maxRecDepth 100000 in
set_option maxHeartbeats 1000000 in
theorem cut_any (w : World) (g o c n u v : Nat) (G : Nat → Prop) (l y : List UInt8) (hr : Row w (some ⟨g, o, none⟩) G (bcells l)) (hn : l.length = n) (hnc : n ≤ c) (hcm : c ≤ maxLen) (huv : u < v) (hvn : v ≤ n) (hy : (l.drop u).take (v - u) = putT y) (hyl : y.length ≤ 300) :
    Calls Tryd.prog 49 #[.slice (some ⟨g, o, none⟩) n c, .int .i64 (u : Int), .int .i64 (v : Int)] w fun e w' => ∃ b, e = .returned (.tuple #[b, .bool true]) ∧ BodyV w w' b y ∧ Kp w w' := by
  have hcm' := hcm
  unfold maxLen at hcm'
  have hrow : Row w (some ⟨g, o + u, none⟩) G (bcells (putT y)) := by
    rw [← hy]
    exact bcells_take (cut_end (n := n) (k := u) (c := c) hr hn (by omega) (.inr ⟨by omega, hnc⟩)) _
  have hpl : (putT y).length = v - u := by rw [← hy, List.length_take, List.length_drop, hn]; omega
  have hpm := putT_most y hyl
  have hgt := get_text (some ⟨g, o + u, none⟩) (c - u) _ (putT y) w hrow (by omega) (by omega) (by omega)
  have hpt : getT (putT y) = (y, (putT y).length, 0) := by
    have h := getT_put y [] (by omega)
    rwa [List.append_nil] at h
  rw [hpt, hpl] at hgt
  simp only at hgt
  have HGT := Lib.hid hgt
  have d1 : decide ((n : Int) < (v : Int)) = false := by simp; omega
  have hne : ¬ c = u := by omega
  have h1 : u ≤ v := by omega
  have h2 : v ≤ c := by omega
  obtain ⟨w1, bv, hcv, hb, hk⟩ := conv_body w y (by omega)
  have HB := Lib.hid hb
  have HK := Lib.hid hk
  clear hgt hpt hpl hrow hr hy hb hk hn
  go_enter Tryd.func49, Tryd.ntmps49
  go_wp2_with fail
  refine HGT.out.mono ?_
  rintro e' w' ⟨rfl, rfl⟩
  rw [show ((0 : Nat) : Int) = 0 from rfl]
  go_wp2_with fail
  go_ret2
  exact ⟨_, rfl, HB.out, HK.out⟩

end Go.Proofs.YtgdbkmecfbkobaaDoor

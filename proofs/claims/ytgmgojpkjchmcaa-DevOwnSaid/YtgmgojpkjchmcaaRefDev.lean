/-
  THE REFERENCE's DEVICE: how it lies in memory; Loose, Flush.
-/
import Derived.Test.YtgmgojpkjchmcaaDevMath
import Derived.Test.YtgmgojpkjchmcaaObj
import Derived.Test.YtgmgojpkjchmcaaBytes
import Derived.WalkKit
import Derived.Lib.Hide
import Derived.Lib.SmallJoins
namespace Go.Proofs.Ytgmgojpkjchmcaa
open Go Go.RowKit Go.Joins

/-- The reference's device at block p. -/
structure RAt (w : World) (p : Nat) (F : Foot) (s : SDev) : Prop where
  ok : s.Ok
  lt : ∀ b, F.all b → b < w.heap.size
  two : ∀ b, F.M b → ¬ F.I b
  ex : ∃ (gn cn gf cf gd cd : Nat) (ns fs : List Part),
    w.heap[p]? = some (.cells #[.slice (some ⟨gn, 0, none⟩) s.now.length cn, .slice (some ⟨gf, 0, none⟩) s.now.length cf, .slice (some ⟨gd, 0, none⟩) s.now.length cd, .int .i64 (s.calls : Int)] 40 (0, 0)) ∧
    w.ownsRow 0 28 1 (.slice (some ⟨gn, 0, none⟩) s.now.length cn) s.now.length (ns.map Part.val) ∧ ns.map (·.l) = s.now ∧
    w.ownsRow 0 28 1 (.slice (some ⟨gf, 0, none⟩) s.now.length cf) s.now.length (fs.map Part.val) ∧ fs.map (·.l) = s.fast ∧
    w.ownsRow 0 4 1 (.slice (some ⟨gd, 0, none⟩) s.now.length cd) s.now.length (s.dirty.map Value.bool) ∧
    (∀ q ∈ ns, q.Fits w F.I) ∧ (∀ q ∈ fs, q.Fits w F.I) ∧ [p, gn, gf, gd].Nodup ∧ F.M p ∧ F.M gn ∧ F.M gf ∧ F.M gd

theorem RAt.keep {w w' : World} {p : Nat} {F : Foot} {s : SDev} (h : RAt w p F s) (hk : Keeps F.all w w') : RAt w' p F s := by
  obtain ⟨gn, cn, gf, cf, gd, cd, ns, fs, h1, h2, h3, h4, h5, h6, h7, h8, h9, m1, m2, m3, m4⟩ := h.ex
  refine ⟨h.ok, fun b hb => Nat.lt_of_lt_of_le (h.lt b hb) hk.size, h.two, gn, cn, gf, cf, gd, cd, ns, fs, ?_, ?_, h3, ?_, h5, ?_, ?_, ?_, h9, m1, m2, m3, m4⟩
  · rw [hk.block p (.inl m1) (h.lt p (.inl m1))]; exact h1
  · exact hk.own h2 fun b hb => by cases hb; exact .inl m2
  · exact hk.own h4 fun b hb => by cases hb; exact .inl m3
  · exact hk.own h6 fun b hb => by cases hb; exact .inl m4
  · exact fun q hq => (h7 q hq).keep (hk.mono fun b _ hb => .inr hb)
  · exact fun q hq => (h8 q hq).keep (hk.mono fun b _ hb => .inr hb)

theorem int_elem : Elem Try.prog 46 3 (.int .i64 0) 1 8 := ⟨Try.underlying46, by kernel_rfl, rfl, by decide⟩
/-- Places, as integers. -/
def nats (l : List Nat) : List Value := l.map fun n : Nat => .int .i64 (n : Int)
/-- A slice of the call's own that holds these numbers. -/
def OwnN (w : World) (base : Nat) (v : Value) (l : List Nat) : Prop := w.ownsRow base 3 1 v l.length (nats l)

set_option maxHeartbeats 400000 in
theorem rloose_any (w : World) (p : Nat) (F : Foot) (s : SDev) (h : RAt w p F s) :
    Calls Try.prog 28 #[.pointer (some ⟨p, 0, none⟩)] w fun e w' => ∃ v, e = .returned v ∧ OwnN w' w.heap.size v s.loose ∧ Keeps (fun _ => True) w w' := by
  obtain ⟨gn, cn, gf, cf, gd, cd, ns, fs, h1, h2, h3, h4, h5, h6, h7, h8, h9, m1, m2, m3, m4⟩ := h.ex
  have hdl := h.ok.dirty
  have hsm := h.ok.small
  have H1 := Lib.hid h1
  have H6 := Lib.hid h6
  have Hd := Lib.hid hdl
  have hlt : p < w.heap.size := h.lt p (.inl m1)
  have hltd : gd < w.heap.size := h.lt gd (.inl m4)
  clear h1 h2 h3 h4 h5 h6 h7 h8 h9 m1 m2 m3 m4 hdl
  go_enter Try.func28, Try.ntmps28
  go_wp2
  go_loopw [3, 4] (fun u i wr => ∃ k : Nat, k ≤ s.now.length ∧ i = .int .i64 k ∧ OwnN wr w.heap.size u (trues (s.dirty.take k)) ∧ Keeps (fun _ => True) w wr) (fun _ i _ => s.now.length - (intOf i).toNat)
  case atStart => exact ⟨0, Nat.zero_le _, rfl, by rw [List.take_zero]; exact World.ownsRow_nil _ _ _ _, Keeps.refl _ _⟩
  case round =>
    obtain ⟨k, hk, rfl, hown, hkp⟩ := hrel
    have hblk : wr.heap[p]? = _ := (hkp.block p trivial hlt).trans H1.out
    have hc2 : wr.cell? ⟨p, 2, none⟩ = some (.slice (some ⟨gd, 0, none⟩) s.now.length cd) := (cell_of_block hblk 2).trans rfl
    have HK := Lib.hid hkp
    have HO := Lib.hid hown
    have hwz := hkp.size
    have htl := trues_len (s.dirty.take k)
    rw [List.length_take] at htl
    clear hblk hkp hown
    by_cases hl : k < s.now.length
    · have hd : k < s.dirty.length := by rw [Hd.out]; exact hl
      have hcd : wr.cell? ⟨gd, k, none⟩ = some (.bool s.dirty[k]) := by
        have h0 := H6.out.cellAt (g := gd) k (by omega)
        rw [HK.out.cell (p := ⟨gd, k, none⟩) (h0.trans (by simp [hd]; rfl)) trivial]
      have H := Lib.hid (trues_next s.dirty k hd)
      generalize s.dirty[k] = b at hcd H
      cases b
      · go_wp2
        go_roundw
        case rel => exact ⟨k + 1, by omega, by go_num, by rw [H.out]; exact HO.out, HK.out⟩
        case measure => simp [intOf]; omega
      · go_wp2_with (at_builtin; refine int_elem.list_append rfl (.tmp 21) (.tmp 23) _ rfl rfl (HO.out.alloc _) rfl (src_one Try.underlying46 _ _ _ ?c1 _ ?c2 _) ?c3 ?c4 ?c5 ?_)
        case c1 => rfl
        case c2 => rfl
        case c3 => unfold maxLen; omega
        case c4 => omega
        case c5 => first | omega | (simp; omega)
        intro v' w2 hown' hg hb
        have hown2 : OwnN w2 w.heap.size v' (trues (s.dirty.take (k + 1))) := by
          rw [H.out]
          simp only [if_true]
          unfold OwnN nats
          rw [List.map_append, List.length_append]
          exact hown'
        have hk2 : Keeps (fun _ => True) w w2 := HK.out.grown (grown_of_alloc hg) fun b hb => (World.ownsRow.lt HO.out b hb).1
        have HO2 := Lib.hid hown2
        have HK2 := Lib.hid hk2
        clear hown' hg hb hown2 hk2
        go_wp2
        go_roundw
        case rel => exact ⟨k + 1, by omega, by go_num, HO2.out, HK2.out⟩
        case measure => simp [intOf]; omega
    · obtain rfl : k = s.now.length := by omega
      have HO2 := Lib.hid (show OwnN wr w.heap.size u3 s.loose by
        have := HO.out
        rw [List.take_of_length_le (by rw [Hd.out]; exact Nat.le_refl _)] at this
        exact this)
      clear htl
      go_wp2
      go_ret
      exact ⟨_, rfl, HO2.out, HK.out⟩

end Go.Proofs.Ytgmgojpkjchmcaa

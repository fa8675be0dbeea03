/- Texts of one proof, behind one another: each says above its part what it proves and on which conditions. -/
import Derived.Test.YtpijhpfcigjkeaaDoorWords
import Derived.Laws.IdiomCopy
import Derived.Test.YtpijhpfcigjkeaaDoorAllBase
import Derived.Deep.RegionLaw
import Derived.Lib.SliceRun
import Derived.Lib.Hide
/-
  WORDS FOR MEMORY: cells of an own row are written one by one ('setCells').
-/
section
namespace Go.Proofs.YtpijhpfcigjkeaaDoor
open Go Go.RowKit

section
variable {w : World} {base n c g : Nat} {e : TypeId} {xs : List Value}
theorem own_setCell (h : w.ownsRow base e 1 (.slice (some ⟨g, 0, none⟩) n c) n xs) (j : Nat) (v : Value) (_hj : j < n) :
    (w.setCell ⟨g, j, none⟩ v).ownsRow base e 1 (.slice (some ⟨g, 0, none⟩) n c) n (xs.set j v) ∧ w.grownBy (w.setCell ⟨g, j, none⟩ v) (some g) := by
  refine ⟨?_, ⟨rfl, rfl, rfl, by simp [World.setCell], fun k _ hk => Below.heap_setCell w ⟨g, j, none⟩ v k (fun e => hk (by rw [e]))⟩⟩
  refine ⟨by rw [List.length_set]; exact h.1, ?_⟩
  rcases h.2 with ⟨h', _⟩ | ⟨g', c', cur, h', hb, hg, hnc, hcm, hcs, htake⟩
  · cases h'
  · injection h' with h1' _ h2'
    injection h1' with h1'
    injection h1' with h1'
    subst h1' h2'
    refine .inr ⟨g, c, cur.setIfInBounds j v, rfl, hb, ?_, hnc, hcm, by simpa using hcs, ?_⟩
    · simp [World.setCell, Array.getElem?_modify, hg]
    · rw [Array.toList_setIfInBounds, List.take_set, htake]
theorem own_setCells : ∀ (vs : List Value) (o : Nat) (w : World) (xs : List Value), w.ownsRow base e 1 (.slice (some ⟨g, 0, none⟩) n c) n xs → o + vs.length ≤ n →
    (w.setCells g o vs).ownsRow base e 1 (.slice (some ⟨g, 0, none⟩) n c) n (xs.take o ++ vs ++ xs.drop (o + vs.length)) ∧ w.grownBy (w.setCells g o vs) (some g)
  | [], o, w, xs, h, _ => by
    refine ⟨?_, ⟨rfl, rfl, rfl, Nat.le_refl _, fun _ _ _ => rfl⟩⟩
    rw [List.append_nil, List.length_nil, Nat.add_zero, List.take_append_drop]
    exact h
  | v :: r, o, w, xs, h, hl => by
    have hl2 : o + (r.length + 1) ≤ n := hl
    have hx : xs.length = n := by have := h.1; omega
    obtain ⟨h1, g1⟩ := own_setCell h o v (by omega)
    obtain ⟨h2, g2⟩ := own_setCells r (o + 1) _ _ h1 (by omega)
    refine ⟨?_, ⟨g2.os.trans g1.os, g2.tape.trans g1.tape, g2.output.trans g1.output, Nat.le_trans g1.size g2.size, fun k hk hne => (g2.block k (Nat.lt_of_lt_of_le hk g1.size) hne).trans (g1.block k hk hne)⟩⟩
    have e2 : (xs.set o v).take (o + 1) ++ r ++ (xs.set o v).drop (o + 1 + r.length) = xs.take o ++ (v :: r) ++ xs.drop (o + (v :: r).length) := by
      apply List.ext_getElem?
      intro i
      simp only [List.getElem?_append, List.length_append, List.length_take, List.length_set, List.length_cons, List.getElem?_take, List.getElem?_drop, List.getElem?_set, List.getElem?_cons]
      have m1 : min (o + 1) xs.length = o + 1 := by omega
      have m2 : min o xs.length = o := by omega
      rw [m1, m2]
      by_cases c1 : i < o
      · simp [c1, show i < o + 1 + r.length by omega, show i < o + (r.length + 1) by omega, show i < o + 1 by omega, show ¬ o = i by omega]
      · by_cases c2 : i = o
        · subst c2
          have q : i < xs.length := by omega
          have q2 : i < i + (r.length + 1) := by omega
          have q3 : i < i + 1 + r.length := by omega
          simp [q, q2, q3]
        · by_cases c3 : i < o + 1 + r.length
          · rw [if_pos c3, if_neg (by omega), if_pos (by omega), if_neg c1, if_neg (by omega)]
            rw [show i - (o + 1) = i - o - 1 by omega]
          · rw [if_neg c3, if_neg (by omega), if_neg (by omega)]
            rw [show o + 1 + r.length + (i - (o + 1 + r.length)) = o + (r.length + 1) + (i - (o + (r.length + 1))) by omega]
    rw [← e2]
    exact h2
end
/-- A shorter slice of an own row. -/
theorem own_short {w : World} {base n c g m : Nat} {e : TypeId} {xs : List Value} (h : w.ownsRow base e 1 (.slice (some ⟨g, 0, none⟩) n c) n xs) (hm : m ≤ n) : w.ownsRow base e 1 (.slice (some ⟨g, 0, none⟩) m c) m (xs.take m) := by
  rcases h.2 with ⟨h', _⟩ | ⟨g', c', cur, h', hb, hg, hnc, hcm, hcs, htake⟩
  · cases h'
  · injection h' with h1' _ h2'
    injection h1' with h1'
    injection h1' with h1'
    subst h1' h2'
    have := h.1
    refine ⟨by rw [List.length_take]; omega, .inr ⟨g, c, cur, rfl, hb, hg, by omega, hcm, hcs, ?_⟩⟩
    rw [← htake, List.take_take]
    congr 1
    omega

end Go.Proofs.YtpijhpfcigjkeaaDoor
end

/-
  WHAT IS ON ITS WAY (layer 20): slices.Delete of one slice of bytes out of many.
-/
section
namespace Go.Proofs.YtpijhpfcigjkeaaDoor
open Go Go.RowKit

set_option maxHeartbeats 2000000 in
set_option maxRecDepth 100000 in
theorem ndelete (w : World) (base g c n i j k : Nat) (vs : List Value) (h : w.ownsRow base 63 1 (.slice (some ⟨g, 0, none⟩) n c) n vs) (hij : j = i + 1) (hk : n = k + 1) (hi : i ≤ k) (h1 : ∀ u ∈ vs, u.oneCell' = true) :
    Calls Tryd.prog 34 #[.slice (some ⟨g, 0, none⟩) n c, .int .i64 (i : Int), .int .i64 (j : Int)] w fun e w' => e = .returned (.slice (some ⟨g, 0, none⟩) k c) ∧
      w'.ownsRow base 63 1 (.slice (some ⟨g, 0, none⟩) k c) k (vs.eraseIdx i) ∧ w.grownBy w' (some g) := by
  have hcap := own_room h
  unfold maxLen at hcap
  have hvl : vs.length = n := by have := h.1; omega
  have hcell : ∀ t (ht : t < n), w.cell? ⟨g, t, none⟩ = some (vs[t]'(by omega)) := fun t ht => by
    have := h.cells (g := g) rfl t (vs[t]'(by omega)) (List.getElem?_eq_getElem (by omega))
    rw [WideShapes.add_plain, Nat.zero_add] at this
    exact this
  obtain ⟨news, hnews⟩ : ∃ news, news = vs.drop j := ⟨_, rfl⟩
  have hlen : news.length = n - j := by rw [hnews, List.length_drop, hvl]
  obtain ⟨A, hA, hsrc⟩ : ∃ A : Addr, (if c = j then some (⟨g, 0, none⟩ : Addr) else some ⟨g, j, none⟩) = some A ∧ Hid (∀ t u, news[t]? = some u → w.drew.cell? (A.add t) = some u) := by
    by_cases hc : c = j
    · refine ⟨⟨g, 0, none⟩, by simp [hc], fun t u hu => ?_⟩
      have h0 : news.length = 0 := by rw [hlen]; omega
      rw [List.length_eq_zero_iff.1 h0] at hu
      simp at hu
    · refine ⟨⟨g, j, none⟩, by simp [hc], fun t u hu => ?_⟩
      have ht : t < n - j := by
        have := (List.getElem?_eq_some_iff.1 hu).1
        rwa [hlen] at this
      rw [WideShapes.add_plain]
      have hh := hcell (j + t) (by omega)
      rw [hnews, List.getElem?_drop, List.getElem?_eq_getElem (by omega)] at hu
      exact hh.trans hu
  have s1 : Hid (news.length = (n - j) * 1) := by rw [Nat.mul_one]; exact hlen
  have s2 : Hid (∀ u ∈ news, u.oneCell' = true) := by
    intro u hu
    rw [hnews] at hu
    exact h1 u (List.mem_of_mem_drop hu)
  have s3 : Hid (∀ t, t < news.length → (w.drew.cell? ⟨g, 0 + i * 1 + t, none⟩).isSome = true ∧ w.drew.frozen? ⟨g, 0 + i * 1 + t, none⟩ = false) := by
    intro t ht
    rw [hlen] at ht
    rw [Nat.mul_one, Nat.zero_add]
    refine ⟨by show (w.cell? _).isSome = true; rw [hcell (i + t) (by omega)]; rfl, ?_⟩
    have := h.frozenAt (i + t)
    exact this
  obtain ⟨W1, hW1⟩ : ∃ W1, W1 = w.drew.setCells g (0 + i * 1) news := ⟨_, rfl⟩
  have hd : w.drew.ownsRow base 63 1 (.slice (some ⟨g, 0, none⟩) n c) n vs := h
  obtain ⟨o1, g1⟩ := own_setCells news (0 + i * 1) _ _ hd (by rw [hlen]; omega)
  rw [← hW1] at o1 g1
  have hc1 : ∀ t, t < n → (W1.cell? ⟨g, t, none⟩).isSome = true ∧ W1.frozen? ⟨g, t, none⟩ = false := fun t ht => by
    have hl1 := o1.1
    refine ⟨?_, o1.frozenAt t⟩
    have := o1.cells (g := g) rfl t _ (List.getElem?_eq_getElem (by omega))
    rw [WideShapes.add_plain, Nat.zero_add] at this
    rw [this]; rfl
  have hcl : ∀ ty, (Builtin.clear_ #[50] ty #[.slice (some ⟨g, i + (n - j), none⟩) (n - (i + (n - j))) (c - (i + (n - j)))]).run Tryd.prog W1 = .ok (.tuple #[]) (W1.setCells g (i + (n - j)) (List.replicate (n - (i + (n - j))) (.slice none 0 0))) :=
    fun ty => Lib.run_clear_slice W1 _ _ ty _ Tryd.underlying50 (fun _ => by kernel_rfl) rfl rfl g (i + (n - j)) _ _ (by omega) (fun t ht => (hc1 _ (by omega)).1) (fun t ht => (hc1 _ (by omega)).2)
  have hW : Hid (W1 = w.drew.setCells g (0 + i * 1) news) := hW1
  obtain ⟨o2, g2⟩ := own_setCells (List.replicate (n - (i + (n - j))) (.slice none 0 0)) (i + (n - j)) _ _ o1 (by rw [List.length_replicate]; omega)
  have o3 := own_short (m := k) o2 (by omega)
  have HFIN := Lib.hid (show ∀ m, m = i + (n - j) → (Ending.returned (.slice (some ⟨g, 0, none⟩) m c) = .returned (.slice (some ⟨g, 0, none⟩) k c) ∧
      (W1.setCells g (i + (n - j)) (List.replicate (n - (i + (n - j))) (.slice none 0 0))).ownsRow base 63 1 (.slice (some ⟨g, 0, none⟩) k c) k (vs.eraseIdx i) ∧ w.grownBy (W1.setCells g (i + (n - j)) (List.replicate (n - (i + (n - j))) (.slice none 0 0))) (some g)) from fun m hm => by
    refine ⟨by rw [hm, show i + (n - j) = k by omega], ?_, ⟨g2.os.trans g1.os, g2.tape.trans g1.tape, g2.output.trans g1.output, Nat.le_trans g1.size g2.size, fun q hq hne => (g2.block q (Nat.lt_of_lt_of_le hq g1.size) hne).trans (g1.block q hq hne)⟩⟩
    have e : ∀ ys : List Value, List.take k (List.take (i + (n - j)) (List.take (0 + i * 1) vs ++ news ++ List.drop (0 + i * 1 + news.length) vs) ++ List.replicate (n - (i + (n - j))) (.slice none 0 0) ++ ys) = vs.eraseIdx i := fun ys => by
      have e1 : (List.take (0 + i * 1) vs ++ news).length = k := by rw [List.length_append, List.length_take, hlen]; omega
      have e2 : List.take (i + (n - j)) (List.take (0 + i * 1) vs ++ news ++ List.drop (0 + i * 1 + news.length) vs) = List.take (0 + i * 1) vs ++ news := by
        rw [show i + (n - j) = (List.take (0 + i * 1) vs ++ news).length by rw [e1]; omega, List.take_left]
      rw [e2, List.append_assoc, show k = (List.take (0 + i * 1) vs ++ news).length from e1.symm, List.take_left, hnews, hij, Nat.zero_add, Nat.mul_one, List.eraseIdx_eq_take_drop_succ]
    rw [e] at o3
    exact o3)
  have hic : i ≤ c := by omega
  have hjc : j ≤ c := by omega
  have hjn : j ≤ n := by omega
  have t1 : ((i : Int) == (j : Int)) = false := by simp; omega
  have hni : ¬ n = i := by omega
  have hci : ¬ c = i := by omega
  have hck : ¬ c = i + (n - j) := by omega
  obtain ⟨i0, hi0, hz1⟩ : ∃ i0, Tryd.prog.info? 63 = some i0 ∧ i0.size = 1 := by
    have e : (Tryd.prog.info? 63).map (·.size) = some 1 := by kernel_rfl
    obtain ⟨i0, h1, h2⟩ := Option.map_eq_some_iff.1 e
    exact ⟨i0, h1, h2⟩
  have hij2 : i ≤ j := by omega
  have hin : i + (n - j) ≤ n := by omega
  clear hW1 h hk hcell hnews hlen hvl hd o1 g1 hc1 o2 g2 o3 h1 hij hi
  go_enter Tryd.func34, Tryd.ntmps34
  go_wp2_with fail
  go_region_law (refine step_append_room rfl (.tmp 22) (.tmp 25) 50 rfl 63 i0 1 Tryd.underlying50 hi0 hz1 g 0 i c (by simp [Act.eval, Act.put]) A (n - j) (c - j) news (by simp [Act.eval, Act.put]) s1.out hsrc.out s2.out (by omega) s3.out ?_; rw [← hW.out])
  go_wp2_with fail
  go_ret
  exact HFIN.out _ rfl

end Go.Proofs.YtpijhpfcigjkeaaDoor
end

/-
  THE PROGRAM's ENTRIES: decode: one entry, or an error and nobody's bytes.
-/
import Derived.Test.YtgdbkmecfbkobaaItemEncs
import Derived.Test.YtgdbkmecfbkobaaNumAll
namespace Go.Proofs.Ytgdbkmecfbkobaa
open Go Go.RowKit Go.Joins

/-! ### What is read was written so -/
theorem getT_ok {l s : List UInt8} {k : Nat} (h : getT l = (s, k, 0)) : l = putT s ++ l.drop k ∧ k = (putT s).length ∧ s.length ≤ 65536 ∧ k ≤ l.length ∧ 0 < k := by
  rcases getZ_cases l with ⟨n, k', hg, hk0, hk10, hkl, hn1, hn2⟩ | hg | hg
  · obtain ⟨r, hr, hk, -, -⟩ := getZ_ok l n k' hg
    by_cases hf : n < 0 ∨ 65536 < n
    · rw [getT_form hg hf] at h; cases h
    · by_cases hm : (l.length : Int) < k' + n
      · rw [getT_more hg hf hm] at h; cases h
      · rw [getT_got hg hf hm] at h
        injection h with h1 h2
        injection h2 with h2 _
        obtain ⟨m, rfl⟩ := Int.eq_ofNat_of_zero_le (show 0 ≤ n by omega)
        rw [Int.toNat_natCast] at h1 h2
        have hd : l.drop k' = r := by rw [hr, hk]; exact List.drop_left
        have hlen : l.length = k' + r.length := by
          conv => lhs; rw [hr]
          rw [List.length_append, hk]
        have hsl : s.length = m := by rw [← h1, List.length_take, hd]; omega
        have hp : putT s = putZ (m : Int) ++ s := by unfold putT; rw [hsl]
        refine ⟨?_, ?_, by omega, by omega, by omega⟩
        · rw [hp, ← h2, ← h1, hd, ← List.drop_drop, hd, List.append_assoc, List.take_append_drop]
          exact hr
        · rw [hp, List.length_append, hsl, ← hk, h2]
  · rw [getT_err hg (by decide)] at h; cases h
  · rw [getT_err hg (by decide)] at h; cases h
theorem allZ2_ok {l : List UInt8} {xs : List Int} {k : Nat} (h : allZ 2 l = (xs, k, 0)) : ∃ t g r, xs = [t, g] ∧ l = putZ t ++ (putZ g ++ r) ∧ k = (putZ t).length + (putZ g).length ∧ -9223372036854775808 ≤ t ∧ t < 9223372036854775808 ∧ -9223372036854775808 ≤ g ∧ g < 9223372036854775808 := by
  rcases getZ_cases l with ⟨t, k1, hg, hk0, hk10, hkl, hn1, hn2⟩ | hg | hg
  · obtain ⟨r, hr, hk, -, -⟩ := getZ_ok l t k1 hg
    rw [allZ_ok hg] at h
    have hd : l.drop k1 = r := by rw [hr, hk]; exact List.drop_left
    rw [hd] at h
    rcases getZ_cases r with ⟨g, k2, hg2, -, -, -, hm1, hm2⟩ | hg2 | hg2
    · obtain ⟨r2, hr2, hk2, -, -⟩ := getZ_ok r g k2 hg2
      rw [allZ_ok hg2] at h
      simp only [allZ] at h
      injection h with h1 h2
      injection h2 with h2 _
      exact ⟨t, g, r2, h1.symm, by rw [← hr2]; exact hr, by rw [← h2, ← hk, ← hk2]; omega, hn1, hn2, hm1, hm2⟩
    · rw [allZ_err hg2 (by decide)] at h; cases h
    · rw [allZ_err hg2 (by decide)] at h; cases h
  · rw [allZ_err hg (by decide)] at h; cases h
  · rw [allZ_err hg (by decide)] at h; cases h
/-- An entry's bytes ahead: what each reading tells. -/
theorem dec_of {x : It} {b r : List UInt8} (hx : x.may = true) (hb : b = x.bytes ++ r) :
    getT b = (x.key.data.toList, (putT x.key.data.toList).length, 0) ∧ getT (b.drop (putT x.key.data.toList).length) = (x.val.data.toList, (putT x.val.data.toList).length, 0) ∧
    ∃ k, allZ 2 (b.drop ((putT x.key.data.toList).length + (putT x.val.data.toList).length)) = ([x.till, x.flag], k, 0) := by
  have m := It.may_is hx
  have f := x.flag_bd
  have kx : x.key.data.toList.length = x.key.size := by simp
  have vx : x.val.data.toList.length = x.val.size := by simp
  have e : b = putT x.key.data.toList ++ (putT x.val.data.toList ++ (putZ x.till ++ (putZ x.flag ++ r))) := by rw [hb]; unfold It.bytes; simp only [List.append_assoc]
  have e2 : b.drop (putT x.key.data.toList).length = putT x.val.data.toList ++ (putZ x.till ++ (putZ x.flag ++ r)) := by rw [e]; exact List.drop_left
  have e3 : b.drop ((putT x.key.data.toList).length + (putT x.val.data.toList).length) = putZ x.till ++ (putZ x.flag ++ r) := by rw [← List.drop_drop, e2]; exact List.drop_left
  refine ⟨by rw [e]; exact getT_put _ _ (by omega), by rw [e2]; exact getT_put _ _ (by omega), ?_⟩
  rw [e3]
  have := allZ_puts [x.till, x.flag] r (fun n hn => by
    simp only [List.mem_cons, List.not_mem_nil, or_false] at hn
    rcases hn with rfl | rfl <;> omega)
  simp only [List.flatMap_cons, List.flatMap_nil, List.append_nil, List.append_assoc, List.length_cons, List.length_nil, Nat.zero_add, Nat.reduceAdd] at this
  exact ⟨_, this⟩
/-- Read whole: an entry's bytes, if it may be. -/
theorem dec_is {b s1 s2 : List UInt8} {k1 k2 k3 : Nat} {t g : Int} (h1 : getT b = (s1, k1, 0)) (h2 : getT (b.drop k1) = (s2, k2, 0)) (h3 : allZ 2 (b.drop (k1 + k2)) = ([t, g], k3, 0)) (hg : g = 0 ∨ g = 1) (gone : Bool) (hgo : gone = decide (g = 1)) :
    ∃ r, b = (⟨txt s1, txt s2, t, gone⟩ : It).bytes ++ r ∧ (⟨txt s1, txt s2, t, gone⟩ : It).bytes.length = k1 + k2 + k3 := by
  obtain ⟨e1, l1, -, -, -⟩ := getT_ok h1
  obtain ⟨e2, l2, -, -, -⟩ := getT_ok h2
  obtain ⟨t', g', r, e3, e4, l3, -, -, -, -⟩ := allZ2_ok h3
  injection e3 with e3 e5
  injection e5 with e5 _
  subst e3 e5
  have hfl : (⟨txt s1, txt s2, t, gone⟩ : It).flag = g := by
    unfold It.flag
    rcases hg with rfl | rfl <;> subst hgo <;> rfl
  refine ⟨r, ?_, ?_⟩
  · unfold It.bytes
    rw [hfl]
    simp only [txt_list, List.append_assoc]
    rw [← e4, ← List.drop_drop, ← e2]
    exact e1
  · unfold It.bytes
    rw [hfl]
    simp only [txt_list, List.length_append]
    omega

/-! ### All of two -/
theorem all_two (W : World) (A : Option Addr) (m c q B : Nat) (l : List UInt8) (hr : Row W A (fun b => b ≠ q ∧ b ≠ q + 1) (bcells l)) (hB : Row W (some ⟨B, 0, none⟩) (fun b => b ≠ q ∧ b ≠ q + 1) [.pointer (some ⟨q, 0, none⟩), .pointer (some ⟨q + 1, 0, none⟩)])
    (h1 : Place W ⟨q, 0, none⟩) (h2 : Place W ⟨q + 1, 0, none⟩) (hm : m = l.length) (hl : l.length ≤ 1000000) (hc : l.length ≤ c) :
    Calls Try.prog 32 #[.slice A m c, .slice (some ⟨B, 0, none⟩) 2 2] W fun e w' => Keeps (fun b => b ≠ q ∧ b ≠ q + 1) W w' ∧
      ((∃ (er : Nat) (xs : List Int) (k : Nat), er ≠ 0 ∧ er ≤ 2 ∧ allZ 2 l = (xs, k, er) ∧ e = .returned (.tuple #[.int .i64 0, .int .i64 (er : Int)])) ∨
       (∃ (t g : Int) (k : Nat), allZ 2 l = ([t, g], k, 0) ∧ e = .returned (.tuple #[.int .i64 (k : Int), .int .i64 0]) ∧ w'.cell? ⟨q, 0, none⟩ = some (.int .i64 t) ∧ w'.cell? ⟨q + 1, 0, none⟩ = some (.int .i64 g))) := by
  subst hm
  refine (show Calls _ _ _ _ _ from all_any A (some ⟨B, 0, none⟩) c 2 (fun b => b ≠ q ∧ b ≠ q + 1) l [some ⟨q, 0, none⟩, some ⟨q + 1, 0, none⟩] W hr hB (fun a ha => by
    simp only [List.mem_cons, Option.some.injEq, List.not_mem_nil, or_false] at ha
    rcases ha with rfl | rfl
    · exact ⟨h1, fun h => h.1 rfl⟩
    · exact ⟨h2, fun h => h.2 rfl⟩) (by omega) hc (by simp)).mono ?_
  rintro e w' ⟨rfl, rfl⟩
  have hst : Keeps (fun b => b ≠ q ∧ b ≠ q + 1) W (stores W [some ⟨q, 0, none⟩, some ⟨q + 1, 0, none⟩] (allZ [some (⟨q, 0, none⟩ : Addr), some ⟨q + 1, 0, none⟩].length l).1) := stores_keeps _ _ _ W W (fun a ha => by
    simp only [List.mem_cons, Option.some.injEq, List.not_mem_nil, or_false] at ha
    rcases ha with rfl | rfl
    · exact fun h => h.1 rfl
    · exact fun h => h.2 rfl) (Keeps.refl _ W)
  refine ⟨hst, ?_⟩
  clear hst
  rw [show [some (⟨q, 0, none⟩ : Addr), some ⟨q + 1, 0, none⟩].length = 2 from rfl]
  obtain ⟨xs, k, er, hz⟩ : ∃ xs k er, allZ 2 l = (xs, k, er) := ⟨_, _, _, rfl⟩
  rw [hz]
  by_cases h0 : er = 0
  · subst h0
    obtain ⟨t, g, r, rfl, -⟩ := allZ2_ok hz
    refine .inr ⟨t, g, k, rfl, by simp, ?_, ?_⟩
    · obtain ⟨⟨u, hu⟩, -⟩ := h1
      have hne : (⟨q + 1, 0, none⟩ : Addr) ≠ ⟨q, 0, none⟩ := fun e => by injection e with e; omega
      show ((W.setCell ⟨q, 0, none⟩ (.int .i64 t)).setCell ⟨q + 1, 0, none⟩ (.int .i64 g)).cell? _ = _
      rw [World.cell?_setCell_other _ _ _ _ hne]
      exact World.cell?_setCell_same W _ _ hu
    · obtain ⟨⟨u, hu⟩, -⟩ := h2.setCell (b := ⟨q, 0, none⟩) (v := .int .i64 t)
      exact World.cell?_setCell_same _ _ _ hu
  · refine .inl ⟨er, xs, k, h0, ?_, rfl, by simp [h0]⟩
    have : ∀ n (l : List UInt8), (allZ n l).2.2 ≤ 2 := fun n => by
      induction n with
      | zero => intro l; simp [allZ]
      | succ n ih =>
        intro l
        rcases getZ_cases l with ⟨t, k1, hg, -⟩ | hg | hg
        · rw [allZ_ok hg]; exact ih _
        · rw [allZ_err hg (by decide)]; decide
        · rw [allZ_err hg (by decide)]; decide
    have h3 := this 2 l
    rw [hz] at h3
    exact h3

end Go.Proofs.Ytgdbkmecfbkobaa

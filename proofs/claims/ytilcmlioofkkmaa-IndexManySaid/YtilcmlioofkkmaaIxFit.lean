/-
  THE PROGRAM's INDEX: fit.
-/
import Derived.Test.YtilcmlioofkkmaaIxLay
namespace Go.Proofs.Ytilcmlioofkkmaa
open Go Go.RowKit Go.Joins

theorem from_below (T : Tab) (p : Int) (n : Nat) : (fromL T p n).map kv = ixBelow (ents T n) p := by
  induction n with
  | zero => rfl
  | succ n ih =>
    rw [fromL_succ, List.map_append, ih, ents_succ]
    unfold ixBelow
    rw [List.filter_append]
    congr 1
    unfold ent
    cases (T n).full
    · simp
    · by_cases h : p ≤ (T n).pos <;> simp [h, kv]
theorem from_ok {T : Tab} {n : Nat} {st : IxSt} (H : TabOk hashN T n st) (p : Int) : (∀ s ∈ fromL T p n, s.full = true ∧ s.hash = (hashN s.key : Int)) ∧ (((fromL T p n).map kv).map (·.1)).Nodup ∧ ((fromL T p n).map kv).Perm (ixBelow st p) := by
  refine ⟨fun s hs => ?_, ?_, ?_⟩
  · unfold fromL at hs
    obtain ⟨h1, h2⟩ := List.mem_filter.1 hs
    obtain ⟨i, hi, rfl⟩ := List.mem_map.1 h1
    rw [Bool.and_eq_true] at h2
    exact ⟨h2.1, H.hash i (List.mem_range.1 hi) h2.1⟩
  · rw [from_below]; exact ixBelow_nodup H.nde
  · rw [from_below]; exact ixBelow_perm H.perm
theorem below_all {st : IxSt} {p : Int} (h : ∀ x ∈ st, p ≤ x.2) : ixBelow st p = st := by
  unfold ixBelow
  rw [List.filter_eq_self]
  intro x hx
  exact decide_eq_true (h x hx)
theorem tab_nil {T : Tab} {p : Int} : fromL T p 0 = [] := rfl

set_option maxRecDepth 100000 in
set_option maxHeartbeats 1000000 in
/-- Behind it there is room for one more key. -/
theorem fit_any (w : World) (q : Nat) (A : Option Addr) (n c : Nat) (T : Tab) (st : IxSt) (hI : IxS w q A n c T) (hT : 0 < n → TabOk hashN T n st) (hz : n = 0 → st = []) (hc : c = st.length) (hi : ∀ x ∈ st, i64 x.2) (hn : n ≤ 1099511627776) (hcn : c ≤ 68719476736) :
    Calls Try.prog 23 #[.pointer (some ⟨q, 0, none⟩)] w fun e w' => e = .returned (.tuple #[]) ∧ ∃ (g n' : Nat) (T' : Tab), IxAt w' q g n' c T' ∧ TabOk hashN T' n' st ∧ c + 1 < n' ∧ n' ≤ 8 * (c + 1) ∧ (A = some ⟨g, 0, none⟩ ∨ w.heap.size ≤ g) ∧ Keeps (fun b => b ≠ q) w w' := by
  have HI := Lib.hid hI
  have c0 := hI.blk.c0
  have c1 := hI.blk.c1
  obtain ⟨a, ha⟩ : ∃ a, n / 4 = a := ⟨_, rfl⟩
  obtain ⟨b, hb⟩ : ∃ b, n / 8 = b := ⟨_, rfl⟩
  have qa : (n : Int) / 4 = (a : Int) := by omega
  have qb : (n : Int) / 8 = (b : Int) := by omega
  have qa' : (n : Int).tdiv 4 = (a : Int) := by rw [Int.tdiv_eq_ediv_of_nonneg (by omega)]; exact qa
  have qb' : (n : Int).tdiv 8 = (b : Int) := by rw [Int.tdiv_eq_ediv_of_nonneg (by omega)]; exact qb
  have HLAY := Lib.hid (show ∀ (w1 : World) (B : Option Addr) (k : Nat), Kp w w1 → w1.ownsRow w.heap.size 58 4 (.slice B (fromL T (-9223372036854775808) n).length k) (fromL T (-9223372036854775808) n).length (slC (fromL T (-9223372036854775808) n)) →
      Calls Try.prog 28 #[.pointer (some ⟨q, 0, none⟩), .slice B (fromL T (-9223372036854775808) n).length k] w1 fun e w' => e = .returned (.tuple #[]) ∧ ∃ (g n' : Nat) (T' : Tab), IxAt w' q g n' c T' ∧ TabOk hashN T' n' st ∧ c + 1 < n' ∧ n' ≤ 8 * (c + 1) ∧ (A = some ⟨g, 0, none⟩ ∨ w.heap.size ≤ g) ∧ Keeps (fun b => b ≠ q) w w' from fun w1 B k hk ho => by
    have hlen := fromL_len T (-9223372036854775808) n
    have hq := hI.blk.lt
    have hall : (∀ s ∈ fromL T (-9223372036854775808) n, s.full = true ∧ s.hash = (hashN s.key : Int)) ∧ (((fromL T (-9223372036854775808) n).map kv).map (·.1)).Nodup ∧ ((fromL T (-9223372036854775808) n).map kv).Perm st := by
      rcases Nat.eq_zero_or_pos n with h0 | h0
      · subst h0
        rw [tab_nil, hz rfl]
        exact ⟨fun s hs => absurd hs (List.not_mem_nil), List.nodup_nil, List.Perm.refl _⟩
      · have h := from_ok (hT h0) (-9223372036854775808)
        rwa [below_all fun x hx => (hi x hx).1] at h
    have hl : (fromL T (-9223372036854775808) n).length = c := by
      have := hall.2.2.length_eq
      rw [List.length_map] at this
      omega
    refine (lay_any w1 q _ c (hI.blk.keep hk trivial) B k _ ((SlsAt.of_own ho rfl).mono fun b _ hb => ?_) (by omega) hall.1 hall.2.1).mono ?_
    · have := hb.1; omega
    · rintro e w' ⟨rfl, g, n', T', h1, h2, h3, h4, h5, h6⟩
      rw [hl] at h1 h3 h4
      exact ⟨rfl, g, n', T', h1, h2.of_perm hall.2.2, by omega, by omega, .inr (Nat.le_trans hk.size h5), (hk.mono fun _ _ _ => trivial).trans h6⟩)
  have HFROM := Lib.hid (from_any w q A n c T hI hn (-9223372036854775808))
  have HOLD := Lib.hid (show ¬ a * 3 ≤ c → ¬ (8 < n ∧ c < b) → ∃ (g n' : Nat) (T' : Tab), IxAt w q g n' c T' ∧ TabOk hashN T' n' st ∧ c + 1 < n' ∧ n' ≤ 8 * (c + 1) ∧ (A = some ⟨g, 0, none⟩ ∨ w.heap.size ≤ g) ∧ Keeps (fun b => b ≠ q) w w from fun h1 h2 => by
    have h0 : 0 < n := by omega
    obtain ⟨g, e, htab, hne⟩ := hI.tab h0
    have hb := hI.blk
    rw [e] at hb
    exact ⟨g, n, T, ⟨hb, htab, hne⟩, hT h0, by omega, by omega, .inl e, Keeps.refl _ _⟩)
  clear hI hT hz hi hc
  have hcs : (decide ((a : Int) * 3 ≤ (c : Int)) = true) ∨ (decide ((a : Int) * 3 ≤ (c : Int)) = false ∧ decide ((8 : Int) < (n : Int)) = false) ∨ (decide ((a : Int) * 3 ≤ (c : Int)) = false ∧ decide ((8 : Int) < (n : Int)) = true ∧ decide ((c : Int) < (b : Int)) = false) ∨ (decide ((a : Int) * 3 ≤ (c : Int)) = false ∧ decide ((8 : Int) < (n : Int)) = true ∧ decide ((c : Int) < (b : Int)) = true) := by
    cases decide ((a : Int) * 3 ≤ (c : Int)) <;> cases decide ((8 : Int) < (n : Int)) <;> cases decide ((c : Int) < (b : Int)) <;> simp
  go_enter Try.func23, Try.ntmps23
  rcases hcs with e1 | ⟨e1, e2⟩ | ⟨e1, e2, e3⟩ | ⟨e1, e2, e3⟩
  · go_wp2_with fail
    refine (show Calls _ _ _ _ _ from HFROM.out).mono ?_
    rintro e w1 ⟨B, k, rfl, ho, hk⟩
    have HL := Lib.hid (HLAY.out w1 B k hk ho)
    clear ho hk
    go_wp2_with fail
    refine (show Calls _ _ _ _ _ from HL.out).mono ?_
    rintro e w2 ⟨rfl, hfin⟩
    go_wp2_with fail
    go_end0
    exact ⟨rfl, hfin⟩
  · have HO := Lib.hid (HOLD.out (by have := of_decide_eq_false e1; omega) (by have := of_decide_eq_false e2; omega))
    go_wp2_with fail
    go_end0
    exact ⟨rfl, HO.out⟩
  · have HO := Lib.hid (HOLD.out (by have := of_decide_eq_false e1; omega) (by have := of_decide_eq_false e3; omega))
    have f3 : decide (c < b) = false := by rw [decide_eq_false_iff_not]; have := of_decide_eq_false e3; omega
    go_wp2_with fail
    go_end0
    exact ⟨rfl, HO.out⟩
  · have f3 : decide (c < b) = true := by rw [decide_eq_true_eq]; have := of_decide_eq_true e3; omega
    go_wp2_with fail
    refine (show Calls _ _ _ _ _ from HFROM.out).mono ?_
    rintro e w1 ⟨B, k, rfl, ho, hk⟩
    have HL := Lib.hid (HLAY.out w1 B k hk ho)
    clear ho hk
    go_wp2_with fail
    refine (show Calls _ _ _ _ _ from HL.out).mono ?_
    rintro e w2 ⟨rfl, hfin⟩
    go_wp2_with fail
    go_end0
    exact ⟨rfl, hfin⟩

end Go.Proofs.Ytilcmlioofkkmaa

/-
  THE REFERENCE's Rise AND EqTexts: texts in order, each once; two rows of texts compared.
-/
import Derived.Test.YtilcmlioofkkmaaOwnLe
import Derived.Test.YtilcmlioofkkmaaIndexIf
import Derived.Test.YtilcmlioofkkmaaInvG
import Derived.Test.YtilcmlioofkkmaaRowZ
import Derived.Sort.Walk0
import Derived.BigQuiet
import Derived.Deep.QuietTactic
namespace Go.Proofs.Ytilcmlioofkkmaa
open Go Go.RowKit Go.Sort

/-! ### Texts in order -/
def lessB (a b : ByteArray) : Bool := Op.bytesLess a.data.toList b.data.toList
theorem lessB_iff {a b : ByteArray} : lessB a b = true ↔ a.data.toList < b.data.toList := by
  unfold lessB; rw [bytesLess_eq, decide_eq_true_eq]
theorem data_eq {a b : ByteArray} (h : a.data.toList = b.data.toList) : a = b := ByteArray.ext (Array.toList_inj.1 h)
theorem lessB_trans {a b c : ByteArray} (h : lessB a b = true) (k : lessB b c = true) : lessB a c = true := by
  rw [lessB_iff] at *
  exact List.lt_trans h k
theorem lessB_irrefl (a : ByteArray) : lessB a a = false := by
  cases h : lessB a a with
  | false => rfl
  | true => exact absurd (lessB_iff.1 h) (List.lt_irrefl _)
theorem lessB_total {a b : ByteArray} (h : lessB a b = false) (hne : a ≠ b) : lessB b a = true := by
  rw [lessB_iff]
  have h1 : ¬ a.data.toList < b.data.toList := fun e => by rw [lessB_iff.2 e] at h; cases h
  rcases List.le_iff_lt_or_eq.1 (List.not_lt.1 h1) with h2 | h2
  · exact h2
  · exact absurd (data_eq h2).symm hne
theorem rising_ins {out : List ByteArray} {s : ByteArray} {k : Nat} (h : Rising out) (hk : k ≤ out.length) (h1 : ∀ j (hj : j < out.length), j < k → lessB out[j] s = true) (h2 : ∀ hk : k < out.length, lessB out[k] s = false) (hs : s ∉ out) :
    Rising (out.take k ++ s :: out.drop k) := by
  unfold Rising at *
  have ht : (out.take k).Pairwise fun a b => lessB a b = true := List.Pairwise.sublist (List.take_sublist k out) h
  have hd : (out.drop k).Pairwise fun a b => lessB a b = true := List.Pairwise.sublist (List.drop_sublist k out) h
  have hlow : ∀ a ∈ out.take k, lessB a s = true := fun a ha => by
    obtain ⟨i, hi, rfl⟩ := List.getElem_of_mem ha
    rw [List.length_take] at hi
    rw [List.getElem_take]
    exact h1 i (by omega) (by omega)
  have hup : ∀ b ∈ out.drop k, lessB s b = true := fun b hb => by
    obtain ⟨i, hi, rfl⟩ := List.getElem_of_mem hb
    rw [List.length_drop] at hi
    rw [List.getElem_drop]
    have h3 : lessB s (out[k]'(by omega)) = true := lessB_total (h2 (by omega)) fun e => hs (e ▸ List.getElem_mem _)
    rcases Nat.eq_zero_or_pos i with h0 | h0
    · subst h0; exact h3
    · exact lessB_trans h3 (List.pairwise_iff_getElem.1 h k (k + i) (by omega) (by omega) (by omega))
  refine List.pairwise_append.2 ⟨ht, List.pairwise_cons.2 ⟨hup, hd⟩, fun a ha b hb => ?_⟩
  rcases List.mem_cons.1 hb with rfl | hb
  · exact hlow a ha
  · exact lessB_trans (hlow a ha) (hup b hb)
/-- One row alone rises and has just these texts. -/
theorem rising_one {a b : List ByteArray} (ha : Rising a) (hb : Rising b) (h : a.Perm b) : a = b := by
  unfold Rising at *
  refine List.Perm.eq_of_pairwise (le := fun x y => lessB x y = true) (fun x y _ _ hx hy => ?_) ha hb h
  have := lessB_trans hx hy
  rw [lessB_irrefl] at this
  cases this

/-! ### EqTexts -/
def strC (l : List ByteArray) : List Value := l.map Value.string
theorem strC_len (l : List ByteArray) : (strC l).length = l.length := by simp [strC]
theorem strC_at {w : World} {A : Option Addr} {F : Nat → Prop} {l : List ByteArray} (h : Row w A F (strC l)) {k : Nat} (hk : k < l.length) : ∃ b o, A = some ⟨b, o, none⟩ ∧ F b ∧ w.cell? ⟨b, o + k, none⟩ = some (.string l[k]) := by
  obtain ⟨b, o, e, hF, hc⟩ := h.at_ (k := k) (by rw [strC_len]; exact hk)
  exact ⟨b, o, e, hF, by rw [hc]; simp [strC]⟩
set_option maxRecDepth 100000 in
set_option maxHeartbeats 1000000 in
theorem eqtexts_same (w : World) (A B : Option Addr) (c d : Nat) (l : List ByteArray) (hA : Row w A (fun _ => True) (strC l)) (hB : Row w B (fun _ => True) (strC l)) (hl : l.length ≤ 1000000) :
    Calls Try.prog 17 #[.slice A l.length c, .slice B l.length d] w fun e w' => e = .returned (.bool true) ∧ Kp w w' := by
  have HA := Lib.hid hA
  have HB := Lib.hid hB
  obtain ⟨m, hm⟩ : ∃ m, l.length = m := ⟨_, rfl⟩
  have HM := Lib.hid hm
  rw [hm] at hl ⊢
  clear hA hB hm
  go_enter Try.func17, Try.ntmps17
  go_wp2_with fail
  go_loopw [5] (fun i wr => ∃ k : Nat, k ≤ m ∧ i = .int .i64 (k : Int) ∧ Hid (Kp w wr)) (fun i _ => m - (intOf i).toNat)
  case atStart => exact ⟨0, Nat.zero_le _, rfl, Lib.hid (Keeps.refl _ _)⟩
  case round =>
    obtain ⟨k, hk, rfl, HK⟩ := hrel
    by_cases hkm : k < m
    · have hkm' : (k : Int) < (m : Int) := by omega
      obtain ⟨b, o, rfl, -, c1⟩ := strC_at (HA.out.keep HK.out) (k := k) (by rw [HM.out]; exact hkm)
      obtain ⟨b2, o2, rfl, -, c2⟩ := strC_at (HB.out.keep HK.out) (k := k) (by rw [HM.out]; exact hkm)
      generalize l[k]'(by rw [HM.out]; exact hkm) = s at c1 c2
      go_wp2_with fail
      go_quiet (fail)
      go_wp2_with fail
      go_roundw
      case rel => exact ⟨k + 1, by omega, by go_num, Lib.hid (HK.out.drewN _)⟩
      case measure => simp [intOf]; omega
    · obtain rfl : m = k := by omega
      have hkm' : ¬ (m : Int) < (m : Int) := by omega
      go_wp2_with fail
      go_ret
      exact ⟨rfl, HK.out⟩

/-! ### Rise -/
theorem str_elem : Elem Try.prog 36 9 (.string ⟨#[]⟩) 1 16 := ⟨Try.underlying36, by kernel_rfl, rfl, by decide⟩
theorem strC_one (l : List ByteArray) : ∀ u ∈ strC l, u.oneCell' = true := by
  intro u hu
  obtain ⟨s, _, rfl⟩ := List.mem_map.1 hu
  rfl
/-- Where a slice expression from k on begins. -/
def cutA (A : Option Addr) (k c : Nat) : Option Addr := if c = k then A else A.map (·.add k)
section
variable {o : Oper} {a : Act} {w : World} {Q : Exit → Act → World → Prop} {x y z : Operand}
theorem kp_pass {P : Program} {V : World → Value → Prop} (ho : o.op = .assign x) (hx : V w (a.eval x)) : o.wp P a w (fun a' w' => ∃ v', a' = a.put o.dst v' ∧ Kp w w' ∧ V w' v') Q := by
  unfold Oper.wp execOp
  rw [ho]
  exact ⟨a.eval x, rfl, Keeps.refl _ _, hx⟩
theorem kp_first {A : Option Addr} {n c k : Nat} (hk : k ≤ n) (hn : n ≤ c) (hc : c ≤ 9223372036854775807) (hA : A = none → c = 0) (ho : o.op = .slice 36 x none (some y) (some z)) (hx : a.eval x = .slice A n c) (hy : a.eval y = .int .i64 (k : Int)) (hz : a.eval z = .int .i64 (k : Int)) :
    o.wp Try.prog a w (fun a' w' => ∃ v, a' = a.put o.dst v ∧ Kp w w' ∧ IsV (.slice A k k) w' v) Q := by
  refine kp_yield (v := .slice A k k) (w' := w) ?_ (Keeps.refl _ _) rfl
  generalize a.eval = ρ at hx hy hz ⊢
  unfold execOp
  have hkc : k ≤ c := by omega
  cases A with
  | none =>
    obtain rfl : c = 0 := hA rfl
    obtain rfl : k = 0 := by omega
    go_simp
  | some ad => go_simp
theorem kp_rest {A : Option Addr} {n c k : Nat} (hk : k ≤ n) (hn : n ≤ c) (hc : c ≤ 9223372036854775807) (hA : A = none → c = 0) (ho : o.op = .slice 36 x (some y) none none) (hx : a.eval x = .slice A n c) (hy : a.eval y = .int .i64 (k : Int)) :
    o.wp Try.prog a w (fun a' w' => ∃ v, a' = a.put o.dst v ∧ Kp w w' ∧ IsV (.slice (cutA A k c) (n - k) (c - k)) w' v) Q := by
  refine kp_yield (v := .slice (cutA A k c) (n - k) (c - k)) (w' := w) ?_ (Keeps.refl _ _) rfl
  generalize a.eval = ρ at hx hy ⊢
  unfold execOp
  have hkc : k ≤ c := by omega
  cases A with
  | none =>
    obtain rfl : c = 0 := hA rfl
    obtain rfl : k = 0 := by omega
    obtain rfl : n = 0 := by omega
    go_simp
    simp [cutA]
  | some ad =>
    by_cases hck : c = k
    · subst hck
      obtain rfl : n = c := by omega
      go_simp
      simp [cutA]
    · go_simp
      simp [cutA, hck]
theorem kp_at {b f n c i : Nat} (hi : i < n) (ho : o.op = .indexAddr 36 x y) (hx : a.eval x = .slice (some ⟨b, f, none⟩) n c) (hy : a.eval y = .int .i64 (i : Int)) :
    o.wp Try.prog a w (fun a' w' => ∃ v, a' = a.put o.dst v ∧ Kp w w' ∧ IsV (.pointer (some ⟨b, f + i, none⟩)) w' v) Q := by
  refine kp_yield (v := .pointer (some ⟨b, f + i, none⟩)) (w' := w) ?_ (Keeps.refl _ _) rfl
  generalize a.eval = ρ at hx hy ⊢
  unfold execOp
  go_simp
theorem kp_loadS {p : Addr} {s : ByteArray} (hc : w.cell? p = some (.string s)) (ho : o.op = .load 9 x) (hx : a.eval x = .pointer (some p)) :
    o.wp Try.prog a w (fun a' w' => ∃ v, a' = a.put o.dst v ∧ Kp w w' ∧ IsV (.string s) w' v) Q := by
  refine kp_yield (v := .string s) (w' := w) ?_ (Keeps.refl _ _) rfl
  generalize a.eval = ρ at hx ⊢
  unfold execOp
  go_simp
/-- A row of one text, new. -/
def OneT (base : Nat) (s : ByteArray) (w : World) (v : Value) : Prop := ∃ g, v = .slice (some ⟨g, 0, none⟩) 1 1 ∧ w.ownsRow base 9 1 (.slice (some ⟨g, 0, none⟩) 1 1) 1 [.string s]
def InT (l : List ByteArray) (n : Nat) (w : World) (v : Value) : Prop := ∃ B d, v = .slice B n d ∧ Row w B (fun _ => True) (strC l)
theorem kp_oneT {base : Nat} {s : ByteArray} (hb : base ≤ w.heap.size) (ho : o.op = .buildSlice 36 1 #[(0, x)]) (hx : a.eval x = .string s) :
    o.wp Try.prog a w (fun a' w' => ∃ v, a' = a.put o.dst v ∧ Kp w w' ∧ OneT base s w' v) Q := by
  refine kp_yield (V := OneT base s) (v := .slice (some ⟨w.heap.size, 0, none⟩) 1 1) (w' := w.alloc (.cells #[.string s] 9)) ?_ ((Keeps.refl _ w).alloc _) ⟨_, rfl, by simp, .inr ⟨w.heap.size, 1, #[.string s], rfl, hb, heap_alloc_new w _, Nat.le_refl _, by decide, by simp, by simp⟩⟩
  generalize a.eval = ρ at hx ⊢
  unfold execOp
  go_simp
theorem wp_appended {P : Program} {V : World → Value → Prop} {t tx : TypeId} {s u : Operand} {v v' : Value} {y : Value} {w' : World} (ho : o.op = .call { callee := .builtin .append, args := #[s, u], argTypes := #[t, tx] }) (hs : a.eval s = v) (hx : a.eval u = y)
    (hr : (Builtin.append_ #[t, tx] o.type #[v, y]).run P w = .ok v' w') (hk : Kp w w') (hv : V w' v') : o.wp P a w (fun a' w' => ∃ v, a' = a.put o.dst v ∧ Kp w w' ∧ V w' v) Q := by
  unfold Oper.wp execOp
  simp only [ho, resolve, invoke, builtin, Sem.run_bind, Sem.run_pure, Result.andThen_ok, List.map_toArray, List.map_cons, List.map_nil, hs, hx, hr]
  exact ⟨_, rfl, hk, hv⟩
theorem kp_app_in {base : Nat} {s : ByteArray} {B : Option Addr} {m d : Nat} {l : List ByteArray} (hb : base ≤ w.heap.size) (hm : m = l.length) (hl : m ≤ 1000000) (ho : o.op = .call { callee := .builtin .append, args := #[x, y], argTypes := #[36, 36] })
    (hx : OneT base s w (a.eval x)) (hy : a.eval y = .slice B m d) (hr : Row w B (fun _ => True) (strC l)) :
    o.wp Try.prog a w (fun a' w' => ∃ v, a' = a.put o.dst v ∧ Kp w w' ∧ InT (s :: l) (1 + m) w' v) Q := by
  obtain ⟨g, e, hown⟩ := hx
  subst hm
  rcases Nat.eq_zero_or_pos l.length with h0 | h0
  · have hl0 := List.eq_nil_of_length_eq_zero h0
    subst hl0
    refine wp_appended (V := InT [s] 1) ho e hy (str_elem.run_append_none 36 o.type Try.underlying36 _ _ 1 1 d (Nat.le_refl _) w) (Keeps.refl _ _) ⟨_, _, rfl, ?_⟩
    have := Row.of_own (xs := strC [s]) (c := 1) (A := some ⟨g, 0, none⟩) (w := w) (base := base) (e := 9) hown
    exact this.mono fun _ _ _ => trivial
  · have hsrc : Src Try.prog 1 36 (.slice B l.length d) l.length (strC l) w := by
      have := hr.src (P := Try.prog) (c := d) Try.underlying36 (strC_one l)
      rwa [strC_len] at this
    obtain ⟨c, w', hrun, ho2, hk⟩ := str_elem.run_append_tight 36 o.type (OwnLe.of_own hown) hsrc h0 (by unfold maxLen; omega) (by omega) base hb
    refine wp_appended (V := InT (s :: l) (1 + l.length)) ho e hy hrun hk ⟨_, _, rfl, ?_⟩
    have e1 : 1 + l.length = (strC (s :: l)).length := by rw [strC_len, List.length_cons]; omega
    rw [e1] at ho2
    exact (Row.of_own ho2).mono fun _ _ _ => trivial
theorem kp_app_out {base k m : Nat} {A : Option Addr} {p l : List ByteArray} (hb : base ≤ w.heap.size) (hm : m = l.length) (hl : m ≤ 1000000) (hm0 : 0 < m) (hk : k = p.length) (hp : k ≤ 1000000) (ho : o.op = .call { callee := .builtin .append, args := #[x, y], argTypes := #[36, 36] })
    (hx : a.eval x = .slice A k k) (hown : OwnLe w base 9 1 (.slice A k k) k (strC p)) (hy : InT l m w (a.eval y)) :
    o.wp Try.prog a w (fun a' w' => ∃ v, a' = a.put o.dst v ∧ Kp w w' ∧ w'.ownsRow base 9 1 v (k + m) (strC (p ++ l))) Q := by
  obtain ⟨B, d, e, hr⟩ := hy
  subst hm hk
  have hsrc : Src Try.prog 1 36 (.slice B l.length d) l.length (strC l) w := by
    have := hr.src (P := Try.prog) (c := d) Try.underlying36 (strC_one l)
    rwa [strC_len] at this
  obtain ⟨c, w', hrun, ho2, hk⟩ := str_elem.run_append_tight 36 o.type hown hsrc hm0 (by unfold maxLen; omega) (by omega) base hb
  refine wp_appended (V := fun w' v => w'.ownsRow base 9 1 v (p.length + l.length) (strC (p ++ l))) ho hx e hrun hk ?_
  have e1 : strC (p ++ l) = strC p ++ strC l := by simp [strC]
  rw [e1]; exact ho2
end

/-! ### The region of the insertion -/
def VR (base n c k i : Nat) (A LA : Option Addr) (m lc b f : Nat) (out : List ByteArray) (s : ByteArray) : Nat → World → Value → Prop
  | 0 => IsV (.slice A n c)
  | 1 => IsV (.int .i64 (k : Int))
  | 2 => IsV (.int .i64 (k : Int))
  | 3 => IsV (.slice A k k)
  | 4 => IsV (.slice LA m lc)
  | 5 => IsV (.int .i64 (i : Int))
  | 6 => IsV (.pointer (some ⟨b, f + i, none⟩))
  | 7 => IsV (.string s)
  | 8 => OneT base s
  | 9 => IsV (.slice A n c)
  | 10 => IsV (.int .i64 (k : Int))
  | 11 => IsV (.slice (cutA A k c) (n - k) (c - k))
  | 12 => InT (s :: out.drop k) (1 + (n - k))
  | 13 => fun w v => w.ownsRow base 9 1 v (k + (1 + (n - k))) (strC (out.take k ++ s :: out.drop k))
  | 14 => fun w v => w.ownsRow base 9 1 v (k + (1 + (n - k))) (strC (out.take k ++ s :: out.drop k))
  | _ => fun _ _ => True
theorem VR_keep {base n c k i : Nat} {A LA : Option Addr} {m lc b f : Nat} {out : List ByteArray} {s : ByteArray} (j : Nat) (w w' : World) (v : Value) (h : Kp w w') (hv : VR base n c k i A LA m lc b f out s j w v) : VR base n c k i A LA m lc b f out s j w' v := by
  match j, hv with
  | 0, hv => exact hv
  | 1, hv => exact hv
  | 2, hv => exact hv
  | 3, hv => exact hv
  | 4, hv => exact hv
  | 5, hv => exact hv
  | 6, hv => exact hv
  | 7, hv => exact hv
  | 8, hv =>
    obtain ⟨g, e, ho⟩ := hv
    exact ⟨g, e, h.own ho fun _ _ => trivial⟩
  | 9, hv => exact hv
  | 10, hv => exact hv
  | 11, hv => exact hv
  | 12, hv =>
    obtain ⟨B, d, e, hr⟩ := hv
    exact ⟨B, d, e, hr.keep h⟩
  | 13, hv => exact h.own hv fun _ _ => trivial
  | 14, hv => exact h.own hv fun _ _ => trivial
  | n + 15, _ => trivial

end Go.Proofs.Ytilcmlioofkkmaa

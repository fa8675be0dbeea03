/-
  A ROW OF TEXTS THAT GROWS beside a journal, and the keys of JournalLong; '%' and '/' by 26.
-/
import Derived.Test.YtpijdefadmfahaaGreatDoorAllJrA
import Derived.Laws.OwnMore
namespace Go.Proofs.YtpijdefadmfahaaGreatDoor
open Go Go.RowKit Go.Joins
theorem jstr_elem : Elem Tryz.prog 29 9 (.string ⟨#[]⟩) 1 16 := ⟨Tryz.underlying29, by kernel_rfl, rfl, by decide⟩
theorem jsrc (W : World) (g : Nat) (hg : g = W.heap.size) (s : ByteArray) : Src Tryz.prog 1 29 (.slice (some ⟨g, 0, none⟩) 1 1) 1 [.string s] (W.alloc (.cells #[.string s] 9)) := by
  subst hg
  exact src_one Tryz.underlying29 W (.string s) 9 rfl W.heap.size rfl 1
theorem jo_apart {S : JournalOK} {W w w' : World} {p q : Nat} {st : JSt} {dk : Bool} {B : Nat} (h : Jo S W w p q st dk (fun b => B ≤ b ∧ b < w.heap.size)) (hk : Keeps (fun b => b < B) w w') (hg : W.heap.size ≤ B) : Jo S W w' p q st dk (fun b => B ≤ b ∧ b < w'.heap.size) := by
  have h1 := h.own hk fun b hb hn => ⟨⟨by omega, hb⟩, by omega⟩
  obtain ⟨F, Fs, s, a1, a2, a3, a4, a5, a6, a7⟩ := h
  have hF : ∀ b, F.all b → b < B := fun b hb => by
    have h3 := a1.d.lt b hb
    refine Classical.byContradiction fun hn => (a7 b ⟨by omega, h3⟩).1 hb
  have hFs : ∀ b, Fs.all b → b < B := fun b hb => by
    have h3 := S.lt a2 b hb
    refine Classical.byContradiction fun hn => (a7 b ⟨by omega, h3⟩).2.1 hb
  refine ⟨F, Fs, s, ⟨a1.d.keep (hk.mono fun b _ hb => hF b hb), a1.gd, ?_⟩, S.keep a2 (hk.mono fun b _ hb => hFs b hb), a3, a4, a5, a6, fun b hb => ⟨fun hf => by have := hF b hf; omega, fun hf => by have := hFs b hf; omega, hb.2⟩⟩
  exact h1.kp
structure JSit (S : JournalOK) (W w : World) (p q : Nat) (st : JSt) (dk : Bool) (B : Nat) (ks : List ByteArray) (n : Nat) (A : Option Addr) (c : Nat) : Prop where
  jo : Jo S W w p q st dk (fun b => B ≤ b ∧ b < w.heap.size)
  l : w.ownsRow B 9 1 (.slice A n c) n (ks.map Value.string)
  n : ks.length = n
  lo : W.heap.size ≤ B
  hi : B ≤ w.heap.size
section
variable {S : JournalOK} {W w w' : World} {p q : Nat} {st : JSt} {dk : Bool} {B n c : Nat} {ks : List ByteArray} {A : Option Addr}
theorem Jo.sit (h : Jo S W w p q st dk (fun _ => False)) : JSit S W w p q st dk w.heap.size [] 0 none 0 :=
  ⟨h.more (Keeps.refl _ w) fun _b hb => .inr hb, World.ownsRow_nil _ _ _ _, rfl, h.kp.size, Nat.le_refl _⟩
theorem JSit.keep (h : JSit S W w p q st dk B ks n A c) (hk : Kp w w') : JSit S W w' p q st dk B ks n A c :=
  ⟨jo_apart h.jo (hk.mono fun _ _ _ => trivial) h.lo, hk.own h.l fun _ _ => trivial, h.n, h.lo, Nat.le_trans h.hi hk.size⟩
theorem JSit.app (h : JSit S W w p q st dk B ks n A c) {s : ByteArray} {v' : Value} (hown : w'.ownsRow B 9 1 v' (n + 1) (ks.map Value.string ++ [.string s])) (hg : w.grownBy w' (Value.slice A n c).ownBlock) :
    ∃ A' c', v' = .slice A' (n + 1 : Nat) c' ∧ JSit S W w' p q st dk B (ks ++ [s]) (n + 1) A' c' := by
  obtain ⟨g6, c6, rfl, -, -⟩ := hown.form (by omega)
  have hkG : Keeps (fun b => b < B) w w' := Keeps.of_grown hg fun b hb _ hlt => by
    have h1 := (h.l.lt b hb).1
    omega
  refine ⟨_, _, rfl, jo_apart h.jo hkG h.lo, ?_, by rw [List.length_append, h.n]; rfl, h.lo, Nat.le_trans h.hi hkG.size⟩
  rw [List.map_append]
  exact hown
theorem JSit.row (h : JSit S W w p q st dk B ks n A c) : Row w A (fun b => B ≤ b ∧ b < w.heap.size) (ks.map Value.string) ∧ n ≤ c ∧ c ≤ maxLen := by
  have hl := h.l
  refine ⟨?_, ?_⟩
  · have e : n = (ks.map Value.string).length := by rw [List.length_map, h.n]
    rw [e] at hl
    exact Row.of_own hl
  · rcases hl.2 with ⟨h', h0⟩ | ⟨g', cap', cur, h', _, _, h1, h2, _⟩
    · injection h' with _ h3 h4
      subst h4
      exact ⟨by omega, Nat.zero_le _⟩
    · injection h' with _ _ h'
      subst h'
      exact ⟨h1, h2⟩
end
def kl (i : Nat) : ByteArray := key2 (97 + i % 26) (97 + i / 26)
def kls (a n : Nat) : List ByteArray := (List.range' a n).map kl
theorem kls_len (a n : Nat) : (kls a n).length = n := by simp [kls]
theorem kls_succ (a n : Nat) : kls a (n + 1) = kls a n ++ [kl (a + n)] := by simp [kls, List.range'_concat]
theorem kls_add (a n m : Nat) : kls a n ++ kls (a + n) m = kls a (n + m) := by
  unfold kls
  rw [← List.map_append, List.range'_append_1]
theorem kls_at (a n i : Nat) (h : i < (kls a n).length) : (kls a n)[i] = kl (a + i) := by simp [kls]
theorem kls_drop (n m : Nat) : ((kls 0 n).drop (n - m)).take 50 = kls (n - m) (min (min n m) 50) := by
  refine List.ext_getElem ?_ fun i h1 h2 => ?_
  · simp [kls]; omega
  · simp [kls]
section
variable {ops : Array Oper} {rest : List Oper} {o : Oper} {a : Act} {w : World} {Q : Exit → Act → World → Prop}
theorem rem26_run {ρ : Operand → Value} {x : Operand} {n : Nat} (ho : o.op = .binOp .rem 3 x (.const (.int .i64 26)) 3) (hx : ρ x = .int .i64 (n : Int)) (hy : ρ (.const (.int .i64 26)) = .int .i64 26) : (execOp ρ o).run Tryz.prog w = .ok (.value (.int .i64 ((n % 26 : Nat) : Int))) w := by
  unfold execOp
  rw [ho]
  go_simp
  rw [Int.tmod_eq_emod_of_nonneg (by omega)]
theorem quo26_run {ρ : Operand → Value} {x : Operand} {n : Nat} (hn : n ≤ 1000000) (ho : o.op = .binOp .quo 3 x (.const (.int .i64 26)) 3) (hx : ρ x = .int .i64 (n : Int)) (hy : ρ (.const (.int .i64 26)) = .int .i64 26) : (execOp ρ o).run Tryz.prog w = .ok (.value (.int .i64 ((n / 26 : Nat) : Int))) w := by
  unfold execOp
  rw [ho]
  go_simp
  rw [IntKind.wrap_i64]
  omega
theorem list_rem26 (hgd : o.guard = none) (x : Operand) (n : Nat) (ho : o.op = .binOp .rem 3 x (.const (.int .i64 26)) 3) (hx : a.eval x = .int .i64 (n : Int)) (hK : wpList Tryz.prog ops Q rest (a.put o.dst (.int .i64 ((n % 26 : Nat) : Int))) w) : wpList Tryz.prog ops Q (o :: rest) a w :=
  wpList_plain hgd fun _ hh => by
    unfold Oper.wp
    rw [rem26_run ho hx rfl]
    exact hh _ _ hK
theorem list_quo26 (hgd : o.guard = none) (x : Operand) (n : Nat) (hn : n ≤ 1000000) (ho : o.op = .binOp .quo 3 x (.const (.int .i64 26)) 3) (hx : a.eval x = .int .i64 (n : Int)) (hK : wpList Tryz.prog ops Q rest (a.put o.dst (.int .i64 ((n / 26 : Nat) : Int))) w) : wpList Tryz.prog ops Q (o :: rest) a w :=
  wpList_plain hgd fun _ hh => by
    unfold Oper.wp
    rw [quo26_run hn ho hx rfl]
    exact hh _ _ hK
variable {x y : Operand}
theorem kp_addJ {k m : Nat} (h : m ≤ 1000000) (hk : k ≤ 1000) (ho : o.op = .binOp .add 3 x y 3) (hx : a.eval x = .int .i64 (k : Int)) (hy : a.eval y = .int .i64 (m : Int)) : o.wp Tryz.prog a w (fun a' w' => ∃ v, a' = a.put o.dst v ∧ Kp w w' ∧ IsV (.int .i64 ((k + m : Nat) : Int)) w' v) Q := by
  refine kp_yield (v := .int .i64 ((k + m : Nat) : Int)) (w' := w) ?_ (Keeps.refl _ _) rfl
  generalize a.eval = ρ at hx hy ⊢
  unfold execOp
  rw [ho]
  go_simp
  rw [IntKind.wrap_i64]
  omega
theorem kp_byteN {n : Nat} (h : n < 256) (ho : o.op = .convert 3 5 x) (hx : a.eval x = .int .i64 (n : Int)) : o.wp Tryz.prog a w (fun a' w' => ∃ v, a' = a.put o.dst v ∧ Kp w w' ∧ IsV (.int .u8 (n : Int)) w' v) Q := by
  refine kp_yield (v := .int .u8 (n : Int)) (w' := w) ?_ (Keeps.refl _ _) rfl
  have h2 : (n : Int) < 256 := by omega
  generalize a.eval = ρ at hx ⊢
  unfold execOp
  rw [ho]
  go_simp
  rw [IntKind.wrap_u8]
  omega
theorem kp_rem26 {n : Nat} (ho : o.op = .binOp .rem 3 x (.const (.int .i64 26)) 3) (hx : a.eval x = .int .i64 (n : Int)) : o.wp Tryz.prog a w (fun a' w' => ∃ v, a' = a.put o.dst v ∧ Kp w w' ∧ IsV (.int .i64 ((n % 26 : Nat) : Int)) w' v) Q :=
  kp_yield (v := .int .i64 ((n % 26 : Nat) : Int)) (w' := w) (rem26_run ho hx rfl) (Keeps.refl _ _) rfl
theorem kp_quo26 {n : Nat} (hn : n ≤ 1000000) (ho : o.op = .binOp .quo 3 x (.const (.int .i64 26)) 3) (hx : a.eval x = .int .i64 (n : Int)) : o.wp Tryz.prog a w (fun a' w' => ∃ v, a' = a.put o.dst v ∧ Kp w w' ∧ IsV (.int .i64 ((n / 26 : Nat) : Int)) w' v) Q :=
  kp_yield (v := .int .i64 ((n / 26 : Nat) : Int)) (w' := w) (quo26_run hn ho hx rfl) (Keeps.refl _ _) rfl
end
end Go.Proofs.YtpijdefadmfahaaGreatDoor

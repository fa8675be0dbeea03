/-
  TWO JOURNALS, each on a device of its own, apart from one another; which texts may be keys.
-/
import Derived.Test.YtpijdefadmfahaaGreatDoorJrTexts
namespace Go.Proofs.YtpijdefadmfahaaGreatDoor
open Go Go.RowKit Go.Joins
def okB (s : ByteArray) : Bool := decide (1 ≤ s.size) && decide (s.size ≤ 40)
theorem okB_iff (s : ByteArray) : okB s = true ↔ keyOk s := by simp [okB, keyOk]
theorem jkey (s : ByteArray) (hs : s.size ≤ 1000000) (w : World) :
    Calls Tryz.prog 16 #[.string s] w fun e w' => e = .returned (.bool (okB s)) ∧ w = w' := by
  obtain ⟨kb, hk⟩ : ∃ kb, okB s = kb := ⟨_, rfl⟩
  rw [hk]
  unfold okB at hk
  by_cases h1 : 1 ≤ s.size
  · by_cases h2 : s.size ≤ 40
    · have t1 : decide ((1 : Int) ≤ (s.size : Int)) = true := by simp; omega
      have t2 : decide ((s.size : Int) ≤ 40) = true := by simp; omega
      obtain rfl : true = kb := by rw [← hk]; simp [h1, h2]
      clear hk h1 h2
      go_enter Tryz.func16, Tryz.ntmps16
      go_wp2_with fail
      go_ret
      exact ⟨rfl, rfl⟩
    · have t1 : decide ((1 : Int) ≤ (s.size : Int)) = true := by simp; omega
      have t2 : decide ((s.size : Int) ≤ 40) = false := by simp; omega
      obtain rfl : false = kb := by rw [← hk]; simp [h2]
      clear hk h1 h2
      go_enter Tryz.func16, Tryz.ntmps16
      go_wp2_with fail
      go_ret
      exact ⟨rfl, rfl⟩
  · have t1 : decide ((1 : Int) ≤ (s.size : Int)) = false := by simp; omega
    obtain rfl : false = kb := by rw [← hk]; simp [h1]
    clear hk h1
    go_enter Tryz.func16, Tryz.ntmps16
    go_wp2_with fail
    go_ret
    exact ⟨rfl, rfl⟩
theorem Jo.ownMore {S : JournalOK} {W w w' : World} {p q : Nat} {st : JSt} {dk : Bool} {X Y G : Nat → Prop} (h : Jo S W w p q st dk X) (hk : Keeps G w w') (hG : ∀ b, b < w.heap.size → ¬ G b → X b ∧ W.heap.size ≤ b) (hY : ∀ b, Y b → X b ∨ (w.heap.size ≤ b ∧ b < w'.heap.size)) : Jo S W w' p q st dk Y := by
  have h1 := h.own hk hG
  have hd : ∀ b, X b → b < w.heap.size := by
    obtain ⟨F, Fs, s, a1, a2, a3, a4, a5, a6, a7⟩ := h
    exact fun b hb => (a7 b hb).2.2
  classical
  obtain ⟨F, Fs, s, a1, a2, a3, a4, a5, a6, a7⟩ := h
  have hF : ∀ b, F.all b → G b := fun b hb => Classical.byContradiction fun hn => (a7 b (hG b (a1.d.lt b hb) hn).1).1 hb
  have hFs : ∀ b, Fs.all b → G b := fun b hb => Classical.byContradiction fun hn => (a7 b (hG b (S.lt a2 b hb) hn).1).2.1 hb
  refine ⟨F, Fs, s, ⟨a1.d.keep (hk.mono fun b _ hb => hF b hb), a1.gd, h1.kp⟩, S.keep a2 (hk.mono fun b _ hb => hFs b hb), a3, a4, a5, a6, fun b hb => ?_⟩
  rcases hY b hb with hb | hb
  · exact ⟨(a7 b hb).1, (a7 b hb).2.1, Nat.lt_of_lt_of_le (a7 b hb).2.2 hk.size⟩
  · exact ⟨fun hf => by have := a1.d.lt b hf; omega, fun hf => by have := S.lt a2 b hf; omega, hb.2⟩
def Jo2 (S : JournalOK) (W w : World) (pa qa : Nat) (sa : JSt) (da : Bool) (pb qb : Nat) (sb : JSt) (db : Bool) (X : Nat → Prop) : Prop :=
  (∀ b, X b → b < w.heap.size) ∧ (∀ b, b < W.heap.size → X b) ∧ ∃ P : Nat → Prop, Jo S W w pa qa sa da (fun b => b < w.heap.size ∧ (X b ∨ ¬ P b)) ∧ Jo S W w pb qb sb db (fun b => b < w.heap.size ∧ (X b ∨ P b))
section
variable {S : JournalOK} {W w w' : World} {pa qa pb qb : Nat} {sa sb : JSt} {da db : Bool} {X : Nat → Prop}
theorem Jo2.keep (h : Jo2 S W w pa qa sa da pb qb sb db X) (hk : Kp w w') : Jo2 S W w' pa qa sa da pb qb sb db X := by
  obtain ⟨h1, h2, P, ha, hb⟩ := h
  refine ⟨fun b hb => Nat.lt_of_lt_of_le (h1 b hb) hk.size, h2, P, ha.more hk fun b hb => ?_, hb.more hk fun b hb => ?_⟩
  · by_cases h : b < w.heap.size
    · exact .inl ⟨h, hb.2⟩
    · exact .inr ⟨by omega, hb.1⟩
  · by_cases h : b < w.heap.size
    · exact .inl ⟨h, hb.2⟩
    · exact .inr ⟨by omega, hb.1⟩
theorem Jo2.loose (h : Jo2 S W w pa qa sa da pb qb sb db X) : Jo2 S W w pa qa sa false pb qb sb false X := by
  obtain ⟨h1, h2, P, ha, hb⟩ := h
  exact ⟨h1, h2, P, ha.loose, hb.loose⟩
theorem Jo2.a (h : Jo2 S W w pa qa sa da pb qb sb db X) : Jo S W w pa qa sa da X := by
  obtain ⟨h1, h2, P, ha, hb⟩ := h
  exact ha.less fun b hb => ⟨h1 b hb, .inl hb⟩
theorem Jo2.b (h : Jo2 S W w pa qa sa da pb qb sb db X) : Jo S W w pb qb sb db X := by
  obtain ⟨h1, h2, P, ha, hb⟩ := h
  exact hb.less fun b hb => ⟨h1 b hb, .inl hb⟩
theorem Jo2.kp (h : Jo2 S W w pa qa sa da pb qb sb db X) : Kp W w := h.a.kp
theorem jo2_new (hX : ∀ b, X b → b < w.heap.size) (hW : ∀ b, b < W.heap.size → X b) (ha : Jo S W w pa qa sa da X) (hk : Kp w w') (hb : Jo S W w' pb qb sb db (fun b => b < w.heap.size)) : Jo2 S W w' pa qa sa da pb qb sb db X := by
  refine ⟨fun b hb => Nat.lt_of_lt_of_le (hX b hb) hk.size, hW, fun b => b < w.heap.size, ha.more hk fun b hb => ?_, hb.less fun b hb => ?_⟩
  · rcases hb.2 with h | h
    · exact .inl h
    · exact .inr ⟨by omega, hb.1⟩
  · rcases hb.2 with h | h
    · exact hX b h
    · exact h
theorem jo2_addA (hT : S.T W) (h : Jo2 S W w pa qa sa da pb qb sb db X) (hage : sa.age ≤ 20000) (A : Option Addr) (ks : List ByteArray) (hrow : Row w A X (ks.map Value.string)) (c n : Nat) (hn : n = ks.length) (hc : n ≤ c) (hcm : c ≤ maxLen) (hl : n ≤ 1000) (hok : ∀ k ∈ ks, keyOk k) (m : Int) (hm : m = ((sa.keys.length + ks.length : Nat) : Int)) :
    Calls Tryz.prog 10 #[.pointer (some ⟨qa, 0, none⟩), .slice A n c] w fun e w' => e = .returned (.tuple #[.int .i64 m, .int .i64 0]) ∧ ∃ b, sa.base ≤ b ∧ Jo2 S W w' pa qa (jadd sa ks b) true pb qb sb db X ∧ Keeps X w w' := by
  classical
  obtain ⟨h1, h2, P, ha, hb⟩ := h
  refine (jo_add hT ha hage A ks (hrow.mono fun b _ hb => ⟨h1 b hb, .inl hb⟩) c n hn hc hcm hl hok m hm).mono ?_
  rintro e w' ⟨rfl, b, hbb, hj, hk⟩
  refine ⟨rfl, b, hbb, ⟨fun b hb => Nat.lt_of_lt_of_le (h1 b hb) hk.size, h2, fun b => P b ∨ w.heap.size ≤ b, hj.less fun b hb => ?_, hb.ownMore hk (fun b hlt hn => ?_) fun b hb => ?_⟩, hk.mono fun b _ hb => ⟨h1 b hb, .inl hb⟩⟩
  · rcases hb.2 with h | h
    · exact ⟨h1 b h, .inl h⟩
    · exact ⟨Nat.lt_of_not_le fun h' => h (.inr h'), .inr fun h' => h (.inl h')⟩
  · have hP : P b := Classical.byContradiction fun h => hn ⟨hlt, .inr h⟩
    have hX : ¬ X b := fun h => hn ⟨hlt, .inl h⟩
    exact ⟨⟨hlt, .inr hP⟩, Nat.le_of_not_lt fun h => hX (h2 b h)⟩
  · by_cases hlt : b < w.heap.size
    · refine .inl ⟨hlt, ?_⟩
      rcases hb.2 with h | h | h
      · exact .inl h
      · exact .inr h
      · omega
    · exact .inr ⟨by omega, hb.1⟩
theorem jo2_addB (hT : S.T W) (h : Jo2 S W w pa qa sa da pb qb sb db X) (hage : sb.age ≤ 20000) (k : ByteArray) (hok : keyOk k) (m : Int) (hm : m = ((sb.keys.length + 1 : Nat) : Int)) :
    Calls Tryz.prog 10 #[.pointer (some ⟨qb, 0, none⟩), .slice (some ⟨w.heap.size, 0, none⟩) 1 1] (w.alloc (.cells #[.string k] 9)) fun e w' => e = .returned (.tuple #[.int .i64 m, .int .i64 0]) ∧ ∃ b, sb.base ≤ b ∧ Jo2 S W w' pa qa sa da pb qb (jadd sb [k] b) true X ∧ Keeps X w w' := by
  classical
  obtain ⟨w1, hw1⟩ : ∃ w1, w.alloc (.cells #[.string k] 9) = w1 := ⟨_, rfl⟩
  have hk1 : Kp w w1 := by rw [← hw1]; exact (Keeps.refl _ w).alloc _
  have hs1 : w1.heap.size = w.heap.size + 1 := by rw [← hw1]; simp
  have hrow : Row w1 (some ⟨w.heap.size, 0, none⟩) (fun b => b = w.heap.size) ([k].map Value.string) := by
    rw [← hw1]
    exact Row.fresh w #[.string k] 9 (0, 0) w.heap.size rfl (F := fun b => b = w.heap.size) rfl ([k].map Value.string) rfl
  rw [hw1]
  obtain ⟨h1, h2, P, ha, hb⟩ := h
  have ha1 : Jo S W w1 pa qa sa da (fun b => b < w1.heap.size ∧ (X b ∨ ¬ P b ∨ w.heap.size ≤ b)) := ha.more hk1 fun b hb => by
    by_cases h : b < w.heap.size
    · refine .inl ⟨h, ?_⟩
      rcases hb.2 with h' | h' | h'
      · exact .inl h'
      · exact .inr h'
      · omega
    · exact .inr ⟨by omega, hb.1⟩
  have hb1 : Jo S W w1 pb qb sb db (fun b => b < w1.heap.size ∧ (X b ∨ P b ∨ w.heap.size ≤ b)) := hb.more hk1 fun b hb => by
    by_cases h : b < w.heap.size
    · refine .inl ⟨h, ?_⟩
      rcases hb.2 with h' | h' | h'
      · exact .inl h'
      · exact .inr h'
      · omega
    · exact .inr ⟨by omega, hb.1⟩
  refine (jo_add hT hb1 hage (some ⟨w.heap.size, 0, none⟩) [k] (hrow.mono fun b _ hb => ⟨by rw [hs1]; have : b = w.heap.size := hb; omega, .inr (.inr (Nat.le_of_eq (show w.heap.size = b from hb.symm)))⟩) 1 1 rfl (Nat.le_refl _) (by unfold maxLen; decide) (by decide) (fun x hx => by rw [List.mem_singleton.1 hx]; exact hok) m hm).mono ?_
  rintro e w' ⟨rfl, b, hbb, hj, hk⟩
  refine ⟨rfl, b, hbb, ⟨fun b hb => Nat.lt_of_lt_of_le (h1 b hb) (Nat.le_trans hk1.size hk.size), h2, fun b => P b ∧ b < w.heap.size, ha1.ownMore hk (fun b hlt hn => ?_) fun b hb => ?_, hj.less fun b hb => ?_⟩, ?_⟩
  · have hX : ¬ X b := fun h => hn ⟨hlt, .inl h⟩
    have hP : ¬ P b := fun h => hn ⟨hlt, .inr (.inl h)⟩
    exact ⟨⟨hlt, .inr (.inl hP)⟩, Nat.le_of_not_lt fun h => hX (h2 b h)⟩
  · by_cases hlt : b < w1.heap.size
    · refine .inl ⟨hlt, ?_⟩
      rcases hb.2 with h | h
      · exact .inl h
      · by_cases hP : P b
        · exact .inr (.inr (Nat.le_of_not_lt fun h' => h ⟨hP, h'⟩))
        · exact .inr (.inl hP)
    · exact .inr ⟨by omega, hb.1⟩
  · rcases hb.2 with h | h
    · exact ⟨Nat.lt_of_lt_of_le (h1 b h) hk1.size, .inl h⟩
    · exact ⟨by omega, .inr (.inl h.1)⟩
  · exact ⟨hk.os.trans hk1.os, hk.tape.trans hk1.tape, hk.output.trans hk1.output, Nat.le_trans hk1.size hk.size, fun b hX hlt =>
      (hk.block b ⟨by omega, .inl hX⟩ (by omega)).trans (hk1.block b trivial hlt)⟩
end
end Go.Proofs.YtpijdefadmfahaaGreatDoor

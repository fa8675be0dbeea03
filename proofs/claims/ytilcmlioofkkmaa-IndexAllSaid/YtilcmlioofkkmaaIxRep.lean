/-
  WHAT THE PROGRAM's INDEX KEEPS, in memory; New, Len, Get.
-/
import Derived.Test.YtilcmlioofkkmaaIxFit
import Derived.Test.YtilcmlioofkkmaaIxLib
import Derived.Test.YtilcmlioofkkmaaObj
namespace Go.Proofs.Ytilcmlioofkkmaa
open Go Go.RowKit Go.Joins

def ixFoot (q : Nat) (A : Option Addr) : Foot := ⟨fun b => b = q ∨ A = some ⟨b, 0, none⟩, fun _ => False⟩
/-- The index at q keeps st. -/
structure IxRepAt (w : World) (q : Nat) (A : Option Addr) (n : Nat) (T : Tab) (st : IxSt) : Prop where
  s : IxS w q A n st.length T
  ok : 0 < n → TabOk hashN T n st
  zero : n = 0 → st = [] ∧ A = none
  i : ∀ x ∈ st, i64 x.2
  n : n ≤ 8 * (st.length + 1)
def IxRep (w : World) (q : Nat) (F : Foot) (st : IxSt) : Prop := ∃ A n T, F = ixFoot q A ∧ IxRepAt w q A n T st
section
variable {w w' : World} {q n c : Nat} {A : Option Addr} {T : Tab} {st : IxSt} {F : Foot}
theorem IxRepAt.g (h : IxRepAt w q A n T st) (hn : 0 < n) : ∃ g, A = some ⟨g, 0, none⟩ ∧ IxAt w q g n st.length T := by
  obtain ⟨g, rfl, h1, h2⟩ := h.s.tab hn
  exact ⟨g, rfl, h.s.blk, h1, h2⟩
theorem IxRepAt.nd (h : IxRepAt w q A n T st) : (st.map (·.1)).Nodup := by
  rcases Nat.eq_zero_or_pos n with h0 | h0
  · rw [(h.zero h0).1]; exact List.nodup_nil
  · exact (h.ok h0).nd
theorem IxRepAt.keep (h : IxRepAt w q A n T st) (hk : Keeps (ixFoot q A).all w w') : IxRepAt w' q A n T st := by
  refine ⟨⟨h.s.blk.keep hk (.inl (.inl rfl)), fun h0 => ?_⟩, h.ok, h.zero, h.i, h.n⟩
  obtain ⟨g, rfl, h1, h2⟩ := h.s.tab h0
  exact ⟨g, rfl, h1.keep hk (.inl (.inr rfl)), h2⟩
theorem IxRep.keep (h : IxRep w q F st) (hk : Keeps F.all w w') : IxRep w' q F st := by
  obtain ⟨A, n, T, rfl, h⟩ := h
  exact ⟨A, n, T, rfl, h.keep hk⟩
theorem IxRep.lt (h : IxRep w q F st) : ∀ b, F.all b → b < w.heap.size := by
  obtain ⟨A, n, T, rfl, h⟩ := h
  rintro b ((rfl | hb) | hb)
  · exact h.s.blk.lt
  · rcases Nat.eq_zero_or_pos n with h0 | h0
    · rw [(h.zero h0).2] at hb; cases hb
    · obtain ⟨g, e, h1⟩ := h.g h0
      rw [e] at hb
      injection hb with hb
      injection hb with hb
      rw [← hb]; exact h1.tab.lt
  · exact hb.elim
theorem IxS.at_ (h : IxS w q A n c T) (hn : 0 < n) : ∃ g, A = some ⟨g, 0, none⟩ ∧ IxAt w q g n c T := by
  obtain ⟨g, rfl, h1, h2⟩ := h.tab hn
  exact ⟨g, rfl, h.blk, h1, h2⟩
end

set_option maxRecDepth 100000 in
set_option maxHeartbeats 1000000 in
theorem find_s (w : World) (q : Nat) (A : Option Addr) (n c : Nat) (T : Tab) (st : IxSt) (hI : IxS w q A n c T) (hT : 0 < n → TabOk hashN T n st) (hz : n = 0 → st = []) (hn : n ≤ 1099511627776) (k : ByteArray) :
    Calls Try.prog 22 #[.pointer (some ⟨q, 0, none⟩), .string k, .int .u64 ((hashN k : Nat) : Int)] w fun e w' => w' = w ∧
      ((∃ i, i < n ∧ (T i).full = true ∧ (T i).key = k ∧ e = .returned (.tuple #[.int .i64 (i : Int), .bool true])) ∨ (ixGet st k = none ∧ e = .returned (.tuple #[.int .i64 0, .bool false]))) := by
  rcases Nat.eq_zero_or_pos n with h0 | h0
  · subst h0
    have c0 := hI.blk.c0
    have hst := hz rfl
    subst hst
    clear hI hT hz
    go_enter Try.func22, Try.ntmps22
    go_wp2_with fail
    go_ret2
    exact ⟨rfl, .inr ⟨rfl, rfl⟩⟩
  · obtain ⟨g, rfl, hA⟩ := hI.at_ h0
    exact find_any w q g n c T st hA (hT h0) hn k

set_option maxRecDepth 100000 in
set_option maxHeartbeats 1000000 in
theorem ixnew_any (w : World) : Calls Try.prog 9 #[] w fun e w' => ∃ (q : Nat) (F : Foot), e = .returned (.pointer (some ⟨q, 0, none⟩)) ∧ IxRep w' q F [] ∧ (∀ b, F.all b → w.heap.size ≤ b) ∧ Keeps (fun _ => True) w w' := by
  have hfin : IxRep (w.alloc (.cells #[.slice none 0 0, .int .i64 0] 52)) w.heap.size (ixFoot w.heap.size none) [] :=
    ⟨none, 0, fun _ => Sl.zero, rfl, ⟨heap_alloc_new w _, fun h => absurd h (by decide)⟩, fun h => absurd h (by decide), fun _ => ⟨rfl, rfl⟩, fun x hx => (by cases hx), by decide⟩
  have HF := Lib.hid hfin
  clear hfin
  go_enter Try.func9, Try.ntmps9
  go_wp2_with fail
  go_ret
  refine ⟨_, _, rfl, HF.out, fun b hb => ?_, (Keeps.refl _ w).alloc _⟩
  rcases hb with (rfl | hb) | hb
  · exact Nat.le_refl _
  · cases hb
  · exact hb.elim
set_option maxRecDepth 100000 in
set_option maxHeartbeats 1000000 in
theorem ixlen_any (w : World) (q : Nat) (F : Foot) (st : IxSt) (hR : IxRep w q F st) (hl : st.length ≤ 4096) :
    Calls Try.prog 16 #[.pointer (some ⟨q, 0, none⟩)] w fun e w' => e = .returned (.int .i64 (st.length : Int)) ∧ Keeps (fun _ => True) w w' := by
  obtain ⟨A, n, T, rfl, hR⟩ := hR
  have c1 := hR.s.blk.c1
  clear hR
  go_enter Try.func16, Try.ntmps16
  go_wp2_with fail
  go_ret
  exact ⟨rfl, Keeps.refl _ _⟩
theorem get_val {w : World} {q n : Nat} {A : Option Addr} {T : Tab} {st : IxSt} {k : ByteArray} {i : Nat} (hR : IxRepAt w q A n T st) (hi : i < n) (hf : (T i).full = true) (hk : (T i).key = k) : ixGet st k = some (T i).pos :=
  (hR.ok (by omega)).hit hi hf hk
set_option maxRecDepth 100000 in
set_option maxHeartbeats 1000000 in
theorem ixget_any (w : World) (q : Nat) (F : Foot) (st : IxSt) (hR : IxRep w q F st) (hl : st.length ≤ 4096) (k : ByteArray) (hk : k.size ≤ 4096) :
    Calls Try.prog 15 #[.pointer (some ⟨q, 0, none⟩), .string k] w fun e w' => e = .returned (.tuple #[.int .i64 ((ixGet st k).getD 0), .bool (ixGet st k).isSome]) ∧ Keeps (fun _ => True) w w' := by
  obtain ⟨A, n, T, rfl, hR⟩ := hR
  have hn := hR.n
  have hn1 : n ≤ 1099511627776 := by omega
  obtain ⟨w1, hw1⟩ : ∃ w1, w.alloc (.cells #[.string k] 9) = w1 := ⟨_, rfl⟩
  have hk1 : Kp w w1 := by rw [← hw1]; exact (Keeps.refl _ w).alloc _
  have hR1 := hR.keep (hk1.mono fun _ _ _ => trivial)
  have hc : w1.cell? ⟨w.heap.size, 0, none⟩ = some (.string k) := by rw [← hw1]; exact (cell_of_block (heap_alloc_new w _) 0).trans rfl
  have HH := Lib.hid (hash_any k w.heap.size w1 hk hc)
  have HF := Lib.hid (find_s w1 q A n st.length T st hR1.s hR1.ok (fun h => (hR1.zero h).1) hn1 k)
  have HR := Lib.hid hR1
  have HW1 := Lib.hid hw1
  have HK1 := Lib.hid hk1
  clear hR hw1 hk1 hR1 hc hn
  generalize hX : hashN k = X at HH HF
  clear hX
  go_enter Try.func15, Try.ntmps15
  go_wp2_with fail
  rw [HW1.out]
  refine (show Calls _ _ _ _ _ from HH.out).mono ?_
  rintro e w2 ⟨rfl, rfl⟩
  go_wp2_with fail
  refine (show Calls _ _ _ _ _ from HF.out).mono ?_
  rintro e w3 ⟨rfl, (⟨i, hi, hf, hkey, rfl⟩ | ⟨hno, rfl⟩)⟩
  · obtain ⟨g, rfl, hA⟩ := HR.out.g (by omega)
    have c0 := hA.blk.c0
    have c2 := hA.tab.c2 hi
    have HV := Lib.hid (get_val HR.out hi hf hkey)
    clear hA hf hkey
    generalize (T i).pos = P at c2 HV
    go_wp2_with fail
    go_ret2
    rw [HV.out]
    exact ⟨rfl, HK1.out⟩
  · have HV := Lib.hid hno
    clear hno
    go_wp2_with fail
    go_ret2
    rw [HV.out]
    exact ⟨rfl, HK1.out⟩

end Go.Proofs.Ytilcmlioofkkmaa

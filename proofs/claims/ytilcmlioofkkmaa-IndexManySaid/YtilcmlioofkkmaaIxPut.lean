/-
  THE PROGRAM's INDEX: Put.
-/
import Derived.Test.YtilcmlioofkkmaaIxRep
namespace Go.Proofs.Ytilcmlioofkkmaa
open Go Go.RowKit Go.Joins

section
variable {w w' W : World} {q g n c i : Nat} {T : Tab} {st : IxSt} {k : ByteArray} {p : Int} {A : Option Addr}
/-- A place stored. -/
theorem TabAt.place (h : TabAt w g n T) (hi : i < n) (hf : (T i).full = true) (p : Int) : TabAt (w.setCell ⟨g, i * 4 + 2, none⟩ (.int .i64 p)) g n (setT T i ⟨(T i).key, (T i).hash, p, true⟩) := by
  refine ⟨fun m hm => ?_, fun m => ?_, by simpa using h.lt⟩
  · by_cases e : m = i * 4 + 2
    · subst e
      rw [World.cell?_setCell_same _ _ _ (h.c2 hi), tabV, if_neg (by omega), if_neg (by omega), if_pos (by omega), show (i * 4 + 2) / 4 = i by omega, setT_at]
    · rw [World.cell?_setCell_other _ _ _ _ (fun e2 => e (by injection e2 with _ e2; exact e2.symm)), h.cell m hm]
      unfold tabV
      by_cases e4 : m / 4 = i
      · rw [e4, setT_at]
        by_cases e0 : m % 4 = 0
        · rw [if_pos e0, if_pos e0]
        · by_cases e1 : m % 4 = 1
          · rw [if_neg e0, if_neg e0, if_pos e1, if_pos e1]
          · have e2 : ¬ m % 4 = 2 := by omega
            rw [if_neg e0, if_neg e0, if_neg e1, if_neg e1, if_neg e2, if_neg e2, hf]
      · rw [setT_ne _ _ e4]
  · rw [World.frozen?_setCell]; exact h.ice m
theorem ixPut_len (st : IxSt) (k : ByteArray) (p : Int) (v : Int) (hv : ixGet st k = some v) : (ixPut st k p).length = st.length := by
  have hl := congrArg List.length (ixPut_keys st k p (by rw [hv]; rfl))
  rwa [List.length_map, List.length_map] at hl
/-- The call's own view of what it did: from q, A to q, B. -/
theorem step_of {B : Option Addr} (hk : Keeps (fun b => ¬ (ixFoot q A).M b) w w') (hB : ∀ g, B = some ⟨g, 0, none⟩ → A = some ⟨g, 0, none⟩ ∨ w.heap.size ≤ g) : Step (ixFoot q A) (ixFoot q B) w w' := by
  refine ⟨hk, ?_, fun b hb => hb.elim⟩
  rintro b (rfl | hb)
  · exact .inl (.inl rfl)
  · rcases hB b hb with h | h
    · exact .inl (.inr h)
    · exact .inr h
end

set_option maxRecDepth 100000 in
set_option maxHeartbeats 1000000 in
theorem ixput_any (w : World) (q : Nat) (F : Foot) (st : IxSt) (hR : IxRep w q F st) (hl : st.length ≤ 4096) (k : ByteArray) (p : Int) (hk : k.size ≤ 4096) (hp : i64 p) :
    Calls Try.prog 12 #[.pointer (some ⟨q, 0, none⟩), .string k, .int .i64 p] w fun e w' => e = .returned (.int .i64 ((ixGet st k).getD 0)) ∧ ∃ F' : Foot, IxRep w' q F' (ixPut st k p) ∧ Step F F' w w' := by
  obtain ⟨A, n, T, rfl, hR⟩ := hR
  have hn := hR.n
  have hn1 : n ≤ 1099511627776 := by omega
  obtain ⟨w1, hw1⟩ : ∃ w1, w.alloc (.cells #[.string k] 9) = w1 := ⟨_, rfl⟩
  have hk1 : Kp w w1 := by rw [← hw1]; exact (Keeps.refl _ w).alloc _
  have hR1 := hR.keep (hk1.mono fun _ _ _ => trivial)
  have hc : w1.cell? ⟨w.heap.size, 0, none⟩ = some (.string k) := by rw [← hw1]; exact (cell_of_block (heap_alloc_new w _) 0).trans rfl
  have HH := Lib.hid (hash_any k w.heap.size w1 hk hc)
  have HF := Lib.hid (find_s w1 q A n st.length T st hR1.s hR1.ok (fun h => (hR1.zero h).1) hn1 k)
  have HFIT := Lib.hid (fit_any w1 q A n st.length T st hR1.s hR1.ok (fun h => (hR1.zero h).1) rfl hR1.i hn1 (by omega))
  have HR := Lib.hid hR1
  have HW1 := Lib.hid hw1
  have HK1 := Lib.hid hk1
  have HADD := Lib.hid (fun (w2 : World) (g n' : Nat) (T' : Tab) (hA : IxAt w2 q g n' st.length T') (hT : TabOk hashN T' n' st) (hno : ixGet st k = none) (h1 : st.length + 1 < n') (h2 : n' ≤ 8 * (st.length + 1)) => add_any w2 q g n' st.length T' st hA hT (by omega) (by omega) k p hno h1)
  have HP := Lib.hid hp
  have hks : k.size ≤ 281474976710656 := by omega
  clear hR hw1 hk1 hR1 hc hn hp
  generalize hX : hashN k = X at HH HF HADD
  clear hX
  go_enter Try.func12, Try.ntmps12
  go_wp2_with fail
  rw [HW1.out]
  refine (show Calls _ _ _ _ _ from HH.out).mono ?_
  rintro e w2 ⟨rfl, hw2⟩
  have hw2 := hw2.symm
  subst hw2
  go_wp2_with fail
  refine (show Calls _ _ _ _ _ from HF.out).mono ?_
  rintro e w3 ⟨hw3, (⟨i, hi, hf, hkey, rfl⟩ | ⟨hno, rfl⟩)⟩
  · have hw3 := hw3.symm
    subst hw3
    obtain ⟨g, rfl, hA⟩ := HR.out.g (by omega)
    have c0 := hA.blk.c0
    have c2 := hA.tab.c2 hi
    have tf := hA.tab.ice
    have hg := get_val HR.out hi hf hkey
    have HV := Lib.hid hg
    have hst : IxRepAt (w1.setCell ⟨g, i * 4 + 2, none⟩ (.int .i64 p)) q (some ⟨g, 0, none⟩) n (setT T i ⟨(T i).key, (T i).hash, p, true⟩) (ixPut st k p) := by
      have hlen := ixPut_len st k p _ hg
      refine ⟨⟨?_, fun _ => ⟨g, rfl, hA.tab.place hi hf p, hA.ne⟩⟩, fun h0 => ?_, fun h0 => by omega, ixPut_i64 HR.out.i HP.out, by rw [hlen]; exact HR.out.n⟩
      · rw [hlen]
        exact hA.blk.keep ((Keeps.refl (fun b => b ≠ g) w1).setCell (p := ⟨g, i * 4 + 2, none⟩) (.inr fun e => e rfl) _) (fun e => hA.ne e.symm)
      · have := (HR.out.ok h0).again hi hf p
        rwa [hkey] at this ⊢
    have HS := Lib.hid hst
    have HKK := Lib.hid (show Keeps (fun b => ¬ (ixFoot q (some ⟨g, 0, none⟩)).M b) w (w1.setCell ⟨g, i * 4 + 2, none⟩ (.int .i64 p)) from (HK1.out.mono fun _ _ _ => trivial).setCell (p := ⟨g, i * 4 + 2, none⟩) (.inr fun e => e (.inr rfl)) _)
    clear hA hf hkey hst hg
    generalize (T i).pos = P at c2 HV
    go_wp2_with fail
    go_ret
    rw [HV.out]
    exact ⟨rfl, _, ⟨_, _, _, rfl, HS.out⟩, step_of HKK.out fun g' hg' => .inl hg'⟩
  · have hw3 := hw3.symm
    subst hw3
    have HV := Lib.hid hno
    clear hno
    go_wp2_with fail
    refine (show Calls _ _ _ _ _ from HFIT.out).mono ?_
    rintro e w2 ⟨rfl, g, n', T', hA, hT, h1, h2, h3, hk2⟩
    have HA := Lib.hid hA
    have HT := Lib.hid hT
    have H3 := Lib.hid h3
    have HK2 := Lib.hid hk2
    clear hA hT h3 hk2 HFIT HF
    go_wp2_with fail
    refine (show Calls _ _ _ _ _ from sclone_any k w2 hks).mono ?_
    rintro e w3 ⟨rfl, hk3⟩
    have HA3 := Lib.hid (HA.out.keep hk3 trivial trivial)
    have HK3 := Lib.hid hk3
    clear hk3
    go_wp2_with fail
    refine (show Calls _ _ _ _ _ from HADD.out w3 g n' T' HA3.out HT.out HV.out h1 h2).mono ?_
    rintro e w4 ⟨rfl, T4, hA4, hT4, hk4⟩
    have HS := Lib.hid (show IxRepAt w4 q (some ⟨g, 0, none⟩) n' T4 (ixPut st k p) from by
      rw [ixPut_new HV.out]
      refine ⟨⟨?_, fun _ => ⟨g, rfl, hA4.tab, hA4.ne⟩⟩, fun _ => hT4, fun h0 => by omega, fun x hx => ?_, ?_⟩
      · rw [List.length_append]; exact hA4.blk
      · rcases List.mem_append.1 hx with h | h
        · exact HR.out.i x h
        · simp at h; subst h; exact HP.out
      · rw [List.length_append, List.length_cons, List.length_nil]; omega)
    have HSTEP := Lib.hid (show Step (ixFoot q A) (ixFoot q (some ⟨g, 0, none⟩)) w w4 from by
      refine step_of ?_ fun g' hg' => ?_
      · have k12 : Keeps (fun b => b ≠ q) w w2 := (HK1.out.mono fun _ _ _ => trivial).trans HK2.out
        have k13 : Keeps (fun b => b ≠ q) w w3 := k12.trans (HK3.out.mono fun _ _ _ => trivial)
        refine ⟨hk4.os.trans k13.os, hk4.tape.trans k13.tape, hk4.output.trans k13.output, Nat.le_trans k13.size hk4.size, fun b hb hlt => ?_⟩
        have hbq : b ≠ q := fun e => hb (.inl e)
        refine (hk4.block b ⟨hbq, fun e => ?_⟩ (Nat.lt_of_lt_of_le hlt k13.size)).trans (k13.block b hbq hlt)
        rcases H3.out with h | h
        · exact hb (.inr (by rw [e]; exact h))
        · have := HK1.out.size; omega
      · injection hg' with hg'
        injection hg' with hg'
        subst hg'
        rcases H3.out with h | h
        · exact .inl h
        · exact .inr (Nat.le_trans HK1.out.size h))
    clear hA4 hT4 hk4 HADD
    go_wp2_with fail
    go_ret
    rw [HV.out]
    exact ⟨rfl, _, ⟨_, _, _, rfl, HS.out⟩, HSTEP.out⟩

end Go.Proofs.Ytilcmlioofkkmaa

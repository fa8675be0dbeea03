/-
  THE PROGRAM's INDEX: Keys; and all of it: theIndex.
-/
import Derived.Test.YtilcmlioofkkmaaIxDrop
import Derived.Test.YtilcmlioofkkmaaRowZ
namespace Go.Proofs.Ytilcmlioofkkmaa
open Go Go.RowKit Go.Joins

theorem string_elem : Elem Try.prog 36 9 (.string ⟨#[]⟩) 1 16 := ⟨Try.underlying36, by kernel_rfl, rfl, by decide⟩
/-- make([]E, 0, n). -/
theorem list_make0 {P : Program} {w : World} {ops : Array Oper} {rest : List Oper} {o : Oper} {a : Act} {Q : Exit → Act → World → Prop} (hg : o.guard = none) (l c : Operand) (t : TypeId) (hop : o.op = Op.makeSlice t l c)
    {e : TypeId} {z : Value} {size bytes : Nat} (E : Elem P t e z size bytes) (kl kc : IntKind) (n : Nat) (hl : a.eval l = .int kl 0) (hc : a.eval c = .int kc (n : Int)) (b2 : bytes * n ≤ 281474976710656) (b3 : n ≤ maxLen)
    (hK : ∀ w', w'.ownsRow w.heap.size e size (.slice (some ⟨w.heap.size, 0, none⟩) 0 n) 0 [] → w.grownBy w' none → wpList P ops Q rest (a.put o.dst (.slice (some ⟨w.heap.size, 0, none⟩) 0 n)) w') : wpList P ops Q (o :: rest) a w := by
  obtain ⟨i, hi, hz0, hz1, hz2⟩ := info_parts E.info
  subst hz2
  exact wpList_make_own w hg l c t hop w.heap.size e i z size E.und hi hz0 hz1 kl kc _ n hl hc rfl b2 b3 (Nat.le_refl _) hK
theorem src_text (W : World) (s : ByteArray) : Src Try.prog 1 36 (.slice (some ⟨W.heap.size, 0, none⟩) 1 1) 1 [.string s] (W.alloc (.cells #[.string s] 9)) :=
  src_one Try.underlying36 W (.string s) 9 rfl W.heap.size rfl 1

def keysC (L : List Sl) (j : Nat) : List Value := (L.take j).map fun s => Value.string s.key

set_option maxRecDepth 100000 in
set_option maxHeartbeats 1000000 in
theorem ixkeys_any (w : World) (q : Nat) (F : Foot) (st : IxSt) (hR : IxRep w q F st) (hl : st.length ≤ 4096) :
    Calls Try.prog 18 #[.pointer (some ⟨q, 0, none⟩)] w fun e w' => ∃ (A : Option Addr) (c : Nat) (ks : List ByteArray), e = .returned (.slice A st.length c) ∧ ks.Perm (st.map (·.1)) ∧ Rising ks ∧ st.length ≤ c ∧ c ≤ maxLen ∧
      Row w' A (fun b => w.heap.size ≤ b ∧ b < w'.heap.size) (ks.map Value.string) ∧ Keeps (fun _ => True) w w' := by
  obtain ⟨A, n, T, rfl, hR⟩ := hR
  have hn := hR.n
  have hall : ((fromL T (-9223372036854775808) n).map kv).Perm st := by
    rcases Nat.eq_zero_or_pos n with h0 | h0
    · subst h0
      rw [tab_nil, (hR.zero rfl).1]
      exact List.Perm.refl _
    · have h := (from_ok (hR.ok h0) (-9223372036854775808)).2.2
      rwa [below_all fun x hx => (hR.i x hx).1] at h
  have hlen : (fromL T (-9223372036854775808) n).length = st.length := by
    have := hall.length_eq
    rwa [List.length_map] at this
  have hnd := hR.nd
  have hperm : ((fromL T (-9223372036854775808) n).map Sl.key).Perm (st.map (·.1)) := by
    have := hall.map (·.1)
    rwa [List.map_map] at this
  have HFR := Lib.hid (fun (w1 : World) (h : Kp w w1) => from_any w1 q A n st.length T (hR.s.keep h) (by omega) (-9223372036854775808))
  have c1 := hR.s.blk.c1
  generalize fromL T (-9223372036854775808) n = L at *
  have HP := Lib.hid hperm
  have HL := Lib.hid hlen
  have HND := Lib.hid ((hperm.nodup_iff).2 hnd)
  obtain ⟨c, hc⟩ : ∃ c, st.length = c := ⟨_, rfl⟩
  rw [hc] at c1 hl HL ⊢
  rw [HL.out] at HFR
  clear hR hall hlen hnd hperm hc hn
  go_enter Try.func18, Try.ntmps18
  go_wp2_with (refine list_make0 rfl (.const (.int .i64 0)) (.tmp 11) 36 rfl string_elem .i64 .i64 c rfl rfl (by omega) (by unfold maxLen; omega) ?_)
  intro w1 hown hg
  have hk1 : Kp w w1 := Keeps.of_grown hg fun _ h => by cases h
  have HK1 := Lib.hid hk1
  have hsz1 : w.heap.size < w1.heap.size := (hown.lt w.heap.size rfl).2
  have HO1 := Lib.hid hown
  have HF1 := Lib.hid (HFR.out w1 hk1)
  clear hown hg hk1 HFR
  go_wp2_with fail
  refine (show Calls _ _ _ _ _ from HF1.out).mono ?_
  rintro e w2 ⟨B, k, rfl, ho, hk2⟩
  have HS2 := Lib.hid ((SlsAt.of_own ho HL.out.symm).mono (G := fun b => w1.heap.size ≤ b ∧ b < w2.heap.size) fun b _ h => h)
  have HO2 := Lib.hid (hk2.own HO1.out fun _ _ => trivial)
  have HK2 := Lib.hid (HK1.out.trans hk2)
  have hsz2 := hk2.size
  clear ho hk2 HO1 HK1 HF1
  go_wp2_with fail
  go_loopw [3, 16] (fun v i wr => ∃ (j : Nat) (A1 : Option Addr) (cc : Nat), j ≤ c ∧ i = .int .i64 (j : Int) ∧ v = .slice A1 j cc ∧ Hid (wr.ownsRow w.heap.size 9 1 v j (keysC L j)) ∧ Hid (∀ b, v.ownBlock = some b → b < w1.heap.size ∨ w2.heap.size ≤ b) ∧ Hid (Kp w wr) ∧ Hid (Keeps (fun b => w1.heap.size ≤ b ∧ b < w2.heap.size) w2 wr)) (fun _ i _ => c - (intOf i).toNat)
  case atStart => exact ⟨0, some ⟨w.heap.size, 0, none⟩, c, Nat.zero_le _, rfl, rfl, HO2, Lib.hid (fun b hb => by
    have : b = w.heap.size := by simpa [Value.ownBlock] using hb.symm
    omega), HK2, Lib.hid (Keeps.refl _ _)⟩
  case round =>
    clear HO2
    obtain ⟨j, A1, cc, hj, rfl, rfl, HO, HB, HK, HKW⟩ := hrel
    by_cases hjc : j < c
    · have hjc' : (j : Int) < (c : Int) := by omega
      have hjl : j < L.length := by rw [HL.out]; exact hjc
      have HSr := Lib.hid (HS2.out.keep HKW.out)
      obtain ⟨b, o, rfl, hbw, t0, t1, t2, t3⟩ := HSr.out j hjl
      have HT := Lib.hid (show keysC L (j + 1) = keysC L j ++ [Value.string L[j].key] from by
        unfold keysC
        rw [List.take_succ_eq_append_getElem hjl, List.map_append]; rfl)
      generalize L[j].key = K at t0 HT
      generalize L[j].hash = Z at t1
      generalize L[j].pos = P at t2
      generalize L[j].full = U at t3
      have hblt : b < wr.heap.size := World.block_lt_of_cell? wr _ t0
      have hsrc := src_text (wr.alloc (.cells #[.string K, .int .u64 Z, .int .i64 P, .bool U] 58)) K
      rw [show (wr.alloc (.cells #[.string K, .int .u64 Z, .int .i64 P, .bool U] 58)).heap.size = wr.heap.size + 1 by simp] at hsrc
      have HSRC := Lib.hid hsrc
      have hszr := HK.out.size
      have hszw := HKW.out.size
      clear hsrc HSr
      go_wp2_with (at_builtin; refine string_elem.list_append rfl (.tmp 20) (.tmp 23) _ rfl rfl ((HO.out.alloc _).alloc _) rfl HSRC.out ?c3 ?c4 ?c5 ?_)
      case c3 => unfold maxLen; omega
      case c4 => omega
      case c5 => simp; omega
      intro v3 w3 ho3 hg3 hb3
      have HK3 := Lib.hid (show Kp w w3 from ((HK.out.alloc _).alloc _).grown hg3 fun j hj => (HO.out.lt j hj).1)
      have HKW3 := Lib.hid (show Keeps (fun b => w1.heap.size ≤ b ∧ b < w2.heap.size) w2 w3 from by
        refine ((HKW.out.alloc _).alloc _).trans (Keeps.of_grown hg3 fun b hb _ hh => ?_)
        rcases HB.out b hb with h | h <;> omega)
      have HO3 := Lib.hid (show w3.ownsRow w.heap.size 9 1 v3 (j + 1) (keysC L (j + 1)) from by rw [HT.out]; exact ho3)
      have HB3 := Lib.hid (show ∀ b, v3.ownBlock = some b → b < w1.heap.size ∨ w2.heap.size ≤ b from fun b hb => by
        rcases hb3 with h | h
        · exact HB.out b (by rw [← h]; exact hb)
        · rw [h] at hb
          injection hb with hb
          (try simp at hb)
          omega)
      obtain ⟨g3, c3, rfl, -, -⟩ := ho3.form (by omega)
      clear ho3 hg3 hb3 HSRC HO HB HK HKW
      go_wp2_with fail
      go_roundw
      case rel => exact ⟨j + 1, some ⟨g3, 0, none⟩, c3, hjc, by go_num, rfl, HO3, HB3, HK3, HKW3⟩
      case measure => simp [intOf]; omega
    · obtain rfl : c = j := by omega
      have hjc' : ¬ (c : Int) < (c : Int) := by omega
      have hLt : L.take c = L := by rw [← HL.out]; exact List.take_length
      have hm : keysC L c = (L.map Sl.key).map Value.string := by unfold keysC; rw [hLt, List.map_map]; rfl
      have hll : (L.map Sl.key).length = c := by rw [List.length_map]; exact HL.out
      have hSORT := sort_any wr w.heap.size A1 cc (L.map Sl.key) HND.out (by rw [hll, ← hm]; exact HO.out) (by omega)
      rw [hll] at hSORT
      have HSORT := Lib.hid hSORT
      have hcap := own_cap HO.out
      have HCAP := Lib.hid hcap
      clear hLt hm hll hSORT hcap
      go_wp2_with fail
      refine (show Calls _ _ _ _ _ from HSORT.out).mono ?_
      rintro e w4 ⟨rfl, ks, hks, hrise, ho4, hk4⟩
      have HFIN := Lib.hid (show Kp w w4 from by
        refine ⟨hk4.os.trans HK.out.os, hk4.tape.trans HK.out.tape, hk4.output.trans HK.out.output, Nat.le_trans HK.out.size hk4.size, fun b _ hlt => ?_⟩
        refine (hk4.block b (fun o ho => ?_) (Nat.lt_of_lt_of_le hlt HK.out.size)).trans (HK.out.block b trivial hlt)
        rcases Nat.eq_zero_or_pos c with h0 | h0
        · subst h0
          rcases HO.out.2 with ⟨h1, -⟩ | ⟨g, cap, cur, hv, hb, -⟩
          · injection h1 with h1
            rw [h1] at ho; cases ho
          · injection hv with hv
            rw [hv] at ho
            injection ho with ho
            injection ho with ho
            omega
        · obtain ⟨g, cap, hv, hb, -⟩ := HO.out.form h0
          injection hv with hv
          rw [hv] at ho
          injection ho with ho
          injection ho with ho
          omega)
      have hkl : ks.length = c := by rw [hks.length_eq, List.length_map]; exact HL.out
      have HROW := Lib.hid (show Row w4 A1 (fun b => w.heap.size ≤ b ∧ b < w4.heap.size) (ks.map Value.string) from by
        have h := ho4
        have e : (ks.map Value.string).length = c := by rw [List.length_map]; exact hkl
        rw [← e] at h
        exact Row.of_own h)
      have HKS := Lib.hid (hks.trans HP.out)
      have HRI := Lib.hid hrise
      clear hks hrise ho4 hk4 hkl HSORT
      go_wp2_with fail
      go_ret
      exact ⟨A1, cc, ks, rfl, HKS.out, HRI.out, HCAP.out.1, HCAP.out.2.1, HROW.out, HFIN.out⟩

def theIndex : IndexOK where
  T := fun _ => True
  tk := fun _ _ => trivial
  rep := IxRep
  lt := fun h => h.lt
  keep := fun h hk => h.keep hk
  new := fun w _ => ixnew_any w
  put := fun _ w q F st hR _ _ _ hl k p hk hp => ixput_any w q F st hR hl k p hk hp
  get := fun w q F st hR _ hl k hk => ixget_any w q F st hR hl k hk
  drop := fun _ w q F st hR _ _ _ hl k hk => ixdrop_any w q F st hR hl k hk
  len := fun w q F st hR _ hl => ixlen_any w q F st hR hl
  below := fun _ w q F st hR _ _ _ hl p hp => ixbelow_any w q F st hR hl p hp
  keys := fun w q F st hR _ hl => ixkeys_any w q F st hR hl
  putNil := ixput_nil
  getNil := ixget_nil
  dropNil := ixdrop_nil
  lenNil := ixlen_nil
  belowNil := ixbelow_nil
  keysNil := ixkeys_nil

end Go.Proofs.Ytilcmlioofkkmaa

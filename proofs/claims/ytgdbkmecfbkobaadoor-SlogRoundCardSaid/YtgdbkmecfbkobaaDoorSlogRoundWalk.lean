/-
  THE WALK OF SlogRound, however the program's log lies on its segments.
-/
import Derived.Test.YtgdbkmecfbkobaaDoorSlogBegun
import Derived.Test.YtgdbkmecfbkobaaDoorAllBase
import Derived.Lib.MinMax
namespace Go.Proofs.YtgdbkmecfbkobaaDoor.slogRound
open Go Go.RowKit Go.Joins

/-- The body of a round. -/
def bodyR (size i : Nat) : List UInt8 := (List.replicate size 0).set 0 (UInt8.ofNat i)
theorem bodyR_len (size i : Nat) : (bodyR size i).length = size := by simp [bodyR]
theorem made_zeros (n : Nat) : (madeCells (Value.int .u8 0).cells (n * 1)).toList = bcells (List.replicate n 0) := by
  have e : bcells (List.replicate n 0) = List.replicate n (Value.int .u8 0) := by unfold bcells; rw [List.map_replicate]; rfl
  rw [e, List.eq_replicate_iff]
  refine ⟨by rw [Array.length_toList, size_madeCells, Nat.mul_one], fun v hv => ?_⟩
  unfold madeCells at hv
  rw [Array.toList_map] at hv
  obtain ⟨i, _, rfl⟩ := List.mem_map.1 hv
  have hz : (Value.int .u8 0).cells = #[Value.int .u8 0] := rfl
  rw [hz]
  simp [Nat.mod_one]
/-- What the rounds appended. -/
def HistR (size : Nat) (hist : List LRec) : Prop := ∀ j (h : j < hist.length), hist[j].body = bodyR size j ∧ hist[j].opens = 0
theorem HistR.snoc {size : Nat} {hist : List LRec} (h : HistR size hist) (x : Nat) : HistR size (hist ++ [⟨x, bodyR size hist.length, 0⟩]) := by
  intro j hj
  rcases Nat.lt_or_ge j hist.length with hl | hl
  · rw [List.getElem_append_left hl]; exact h j hl
  · have : j = hist.length := by simp at hj; omega
    subst this
    rw [List.getElem_append_right (Nat.le_refl _)]
    simp
theorem HistR.costs {size : Nat} {hist : List LRec} (h : HistR size hist) (i : Nat) : costs (hist.drop i) = (hist.length - i) * (size + 60) := by
  have hall : ∀ l : List LRec, (∀ r ∈ l, r.cost = size + 60) → Go.Proofs.YtgdbkmecfbkobaaDoor.costs l = l.length * (size + 60) := by
    intro l
    induction l with
    | nil => intro _; simp [Go.Proofs.YtgdbkmecfbkobaaDoor.costs]
    | cons r l ih =>
      intro hr
      have h1 := hr r (by simp)
      have h2 := ih fun x hx => hr x (by simp [hx])
      unfold Go.Proofs.YtgdbkmecfbkobaaDoor.costs at h2 ⊢
      rw [List.map_cons, List.sum_cons, h1, h2, List.length_cons, Nat.add_mul, Nat.one_mul, Nat.add_comm]
  rw [hall _ fun r hr => ?_, List.length_drop]
  obtain ⟨j, hj, rfl⟩ := List.getElem_of_mem (List.mem_of_mem_drop hr)
  obtain ⟨h1, h2⟩ := h j hj
  unfold LRec.cost
  rw [h1, h2, bodyR_len]
/-- How many are there at least. -/
theorem HistR.gone {size n : Nat} {st : LSt} (h : HistR size st.hist) (hok : st.Ok) (hn : st.hist.length = n) : min n (200 * (st.segs - 2) / (size + 60)) + st.gone ≤ n := by
  have hk : min n (200 * (st.segs - 2) / (size + 60)) * (size + 60) ≤ 200 * (st.segs - 2) :=
    Nat.le_trans (Nat.mul_le_mul_right _ (Nat.min_le_right _ _)) (Nat.div_mul_le_self _ _)
  have hle := Nat.min_le_left n (200 * (st.segs - 2) / (size + 60))
  generalize min n (200 * (st.segs - 2) / (size + 60)) = k at hk hle ⊢
  have := hok.kept (n - k) (by omega) (by rw [h.costs, hn, show n - (n - k) = k by omega]; exact hk)
  omega
theorem HistR.rec {size : Nat} {st : LSt} (h : HistR size st.hist) (_hok : st.Ok) (i : Nat) (hi : i < st.recs.length) : (st.recs[i]).2 = bodyR size (st.gone + i) := by
  unfold LSt.recs at hi ⊢
  rw [List.getElem_map, List.getElem_drop]
  have hl : st.gone + i < st.hist.length := by simp at hi; omega
  exact (h _ hl).1
theorem recs_len {st : LSt} (hok : st.Ok) : st.recs.length + st.gone = st.hist.length := by
  have := hok.gone
  unfold LSt.recs
  simp
  omega

set_option maxRecDepth 100000 in
set_option maxHeartbeats 4000000 in
theorem walk (S : SlogOK) (w : World) (hT : S.T w) (sg n sz : Int) (_b1 : (Lit.int .i64 sg).wf = true) (_b2 : (Lit.int .i64 n).wf = true) (_b3 : (Lit.int .i64 sz).wf = true) :
    Calls Tryd.prog 5 #[.int .i64 sg, .int .i64 n, .int .i64 sz] w fun e w' => e = .returned (.bool true) ∧ Below w.heap.size w w' := by
  have HT := Lib.hid hT
  have hcs : (sg < 3) ∨ (3 ≤ sg ∧ 10 < sg) ∨ (3 ≤ sg ∧ sg ≤ 10 ∧ n < 0) ∨ (3 ≤ sg ∧ sg ≤ 10 ∧ 0 ≤ n ∧ 200 < n) ∨ (3 ≤ sg ∧ sg ≤ 10 ∧ 0 ≤ n ∧ n ≤ 200 ∧ sz < 1) ∨ (3 ≤ sg ∧ sg ≤ 10 ∧ 0 ≤ n ∧ n ≤ 200 ∧ 1 ≤ sz ∧ 120 < sz) ∨ (3 ≤ sg ∧ sg ≤ 10 ∧ 0 ≤ n ∧ n ≤ 200 ∧ 1 ≤ sz ∧ sz ≤ 120) := by omega
  clear hT _b1 _b2 _b3
  go_enter Tryd.func5, Tryd.ntmps5
  go_wp2_with fail
  refine (begun6 S w HT.out).mono ?_
  rintro e w1 ⟨rfl, hk1⟩
  have HK1 := Lib.hid hk1
  clear hk1
  rcases hcs with c1 | ⟨c1, c2⟩ | ⟨c1, c2, c3⟩ | ⟨c1, c2, c3, c4⟩ | ⟨c1, c2, c3, c4, c5⟩ | ⟨c1, c2, c3, c4, c5, c6⟩ | ⟨c1, c2, c3, c4, c5, c6⟩
  iterate 6
    · go_wp2_with fail
      go_ret
      exact ⟨rfl, HK1.out.below⟩
  · obtain ⟨g, rfl⟩ : ∃ g : Nat, sg = (g : Int) := ⟨sg.toNat, by omega⟩
    obtain ⟨N, rfl⟩ : ∃ N : Nat, n = (N : Int) := ⟨n.toNat, by omega⟩
    obtain ⟨z, rfl⟩ : ∃ z : Nat, sz = (z : Int) := ⟨sz.toNat, by omega⟩
    go_wp2_with fail
    refine (dv_new HK1.out (g * 8) (by omega) (by omega) _ (by omega)).mono ?_
    rintro e w2 ⟨p, F, rfl, hd, -, -⟩
    have HD := Lib.hid hd
    clear hd HK1
    go_wp2_with fail
    refine (lg_new S HT.out HD.out 0 g 0 _ rfl rfl (by omega) (by omega) (by simp [SDev.still]; omega) (fun j _ h2 => blank_getD (g * 8) j (by omega))).mono ?_
    rintro e w3 ⟨q, Fs, f0, x0, rfl, hl, hx0, -, -⟩
    have HL := Lib.hid hl
    clear hl HD
    go_wp2_with fail
    go_loopw [10, 11] (fun la i wr => ∃ (k L : Nat) (F Fs : Foot) (s : SDev) (st : LSt), k ≤ N ∧ i = .int .i64 k ∧ la = .int .i64 L ∧ L < st.next ∧ st.next ≤ 1048576 * k + 1048576 ∧ s.calls ≤ 1000 * k ∧ st.hist.length = k ∧ st.segs = g ∧ HistR z st.hist ∧ Lg S w wr p q F Fs s st) (fun _ i _ => N - (intOf i).toNat)
    case atStart =>
      have hok := S.wf HL.out.lg
      exact ⟨0, 0, F, Fs, _, _, Nat.zero_le _, rfl, rfl, hok.next.1, by simpa using hx0, Nat.le_refl _, rfl, rfl, fun j hj => absurd hj (by simp), HL.out⟩
    case round =>
      clear HL
      obtain ⟨k, L, F, Fs, s, st, hk, rfl, rfl, hL, hnx, hcl, hhl, hsg, hh, hlg⟩ := hrel
      have HL := Lib.hid hlg
      have HH := Lib.hid hh
      have HHL := Lib.hid hhl
      have HSG := Lib.hid hsg
      clear hlg hh hhl hsg
      by_cases hkN : k < N
      · have hk' : (k : Int) < (N : Int) := by omega
        have hk2 : (k : Int) < 256 := by omega
        go_wp2_with (refine list_make rfl (.tmp 58) (.tmp 58) 31 rfl byte_elem .i64 .i64 z rfl rfl (by omega) (by unfold maxLen; omega) (bcells (List.replicate z 0)) (made_zeros z) ?_)
        intro w4 hown hg4
        have hk4 : Keeps (fun _ => True) wr w4 := Keeps.of_grown hg4 (fun _ h => by cases h)
        have hc0 : w4.cell? ⟨wr.heap.size, 0, none⟩ = some (.int .u8 0) := (hown.cellAt 0 (by omega)).trans (by simp [bcells, List.getElem?_replicate, bcell]; omega)
        have hf0 := hown.frozenAt 0
        have hst := (hown.stored 0 (.int .u8 (k : Int))).1
        have hbd : (bcells (List.replicate z 0)).set 0 (.int .u8 (k : Int)) = bcells (bodyR z k) := by
          unfold bodyR bcells
          rw [List.map_set]
          congr 1
          unfold bcell
          rw [UInt8.toNat_ofNat', Nat.mod_eq_of_lt (by omega)]
        rw [hbd] at hst
        have hnF : ¬ F.all wr.heap.size ∧ ¬ Fs.all wr.heap.size := ⟨fun hf => by have := HL.out.dv.d.lt _ hf; omega, fun hf => by have := S.lt HL.out.lg _ hf; omega⟩
        have HL4 := Lib.hid ((HL.out.keep hk4).store HL.out.dv.kp.size hnF.1 hnF.2 0 (.int .u8 (k : Int)))
        have hrow := own_row (c := z) (n := z) (w := w4.setCell ⟨wr.heap.size, 0, none⟩ (.int .u8 (k : Int))) (xs := bcells (bodyR z k)) hst
        have ha := lg_append HT.out HL4.out (some ⟨wr.heap.size, 0, none⟩) z (bodyR z k) z (bodyR_len z k).symm (hrow.mono fun b _ e => by subst e; exact hnF) (by rw [bodyR_len]; exact Nat.le_refl _) (by unfold maxLen; omega) (by rw [bodyR_len]; omega) (by rw [bodyR_len]; omega) (by omega) (by omega)
        have HA := Lib.hid ha
        clear hown hg4 hk4 hst hbd hnF hrow ha HL
        go_wp2_with fail
        refine (show Calls _ _ _ _ _ from HA.out).mono ?_
        rintro e w5 ⟨x1, F1, Fs1, s1, g1, f1, y1, rfl, hl1, -, hx1, hy1, hm1⟩
        have hok := S.wf hl1.lg
        have hc1 := hm1.calls
        have hxy := hok.next.2 ⟨x1, bodyR z k, 0⟩ (by simp)
        simp only at hxy
        have hh1 : HistR z (st.hist ++ [⟨x1, bodyR z k, 0⟩]) := by have := HH.out.snoc x1; rwa [HHL.out] at this
        have hl2 : (st.hist ++ [⟨x1, bodyR z k, 0⟩] : List LRec).length = k + 1 := by rw [List.length_append, HHL.out]; rfl
        have q1 : y1 ≤ 1048576 * (k + 1) + 1048576 := by omega
        have q2 : s1.calls ≤ 1000 * (k + 1) := by clear HL4 HA hh1 hl1; omega
        have H1 := Lib.hid (show ∃ (F : Foot) (Fs : Foot) (s : SDev) (st : LSt), x1 < st.next ∧ st.next ≤ 1048576 * (k + 1) + 1048576 ∧ s.calls ≤ 1000 * (k + 1) ∧ st.hist.length = k + 1 ∧ st.segs = g ∧ HistR z st.hist ∧ Lg S w w5 p q F Fs s st from ⟨F1, Fs1, s1, ⟨p, st.place, st.segs, st.hist ++ [⟨x1, bodyR z k, 0⟩], g1, f1, y1⟩, hxy, q1, q2, hl2, HSG.out, hh1, hl1⟩)
        have hlx : ¬ x1 ≤ L := by omega
        have ht : decide (x1 ≤ L) = false := by simpa using hlx
        clear hl1 hm1 hok hxy hh1 hl2 q1 q2 HL4 HA HH HHL hc1 hc0 hf0 hlx
        go_wp2_with fail
        go_roundw
        case rel =>
          obtain ⟨F2, Fs2, s2, st2, r1, r2, r3, r4, r5, r6, r7⟩ := H1.out
          exact ⟨k + 1, x1, F2, Fs2, s2, st2, by omega, by go_num, rfl, r1, r2, r3, r4, r5, r6, r7⟩
        case measure => simp [intOf]; omega
      · obtain rfl : k = N := by omega
        have hk' : ¬ (k : Int) < (k : Int) := by omega
        go_wp2_with fail
        refine (lg_all HT.out HL.out).mono ?_
        rintro e w6 ⟨A, c, rfl, hr, hk6⟩
        have hok := S.wf HL.out.lg
        have hgn := HH.out.gone hok HHL.out
        have hrl := recs_len hok
        rw [HHL.out] at hrl
        rw [HSG.out] at hgn
        have HREC := Lib.hid (fun i hi => HH.out.rec hok i hi)
        have HR := Lib.hid hr
        have HE := Lib.hid (HL.out.dv.kp.trans hk6)
        clear hr hk6 hok HL
        have hlen : st.recs.length ≤ k := by omega
        have HLEN := Lib.hid hlen
        obtain ⟨ln, hln⟩ : ∃ ln, st.recs.length = ln := ⟨_, rfl⟩
        rw [hln] at hrl hlen ⊢
        have HLN := Lib.hid hln
        clear hln
        have hq : (((200 * (g - 2) / (z + 60) : Nat)) : Int) = 200 * ((g : Int) - 2) / ((z : Int) + 60) := by
          rw [Int.natCast_ediv]
          congr 1
          omega
        have tm : min (k : Int) (200 * ((g : Int) - 2) / ((z : Int) + 60)) ≤ (ln : Int) := by
          rw [← hq]
          omega
        have tk : ¬ k < ln := by omega
        clear hq hgn
        go_wp2_with fail
        go_loop [17] (fun i => ∃ j : Nat, j ≤ ln ∧ i = .int .i64 j) (fun i => ln - (intOf i).toNat)
        case atStart => exact ⟨0, Nat.zero_le _, rfl⟩
        case round =>
          obtain ⟨j, hj, rfl⟩ := hrel
          by_cases hjl : j < ln
          · have hjl' : j < st.recs.length := by rw [HLN.out]; exact hjl
            obtain ⟨b, o, rfl, -, hcell⟩ := HR.out (by intro e; rw [e] at hjl'; exact absurd hjl' (by simp))
            obtain ⟨-, B, d, hc1, hrow⟩ := hcell j hjl'
            rw [HREC.out j hjl', bodyR_len] at hc1
            rw [HREC.out j hjl'] at hrow
            obtain ⟨bb, bo, rfl, -, hby⟩ := hrow (by intro e; have := congrArg List.length e; rw [bcells_len, bodyR_len] at this; simp at this; omega)
            have hc2 : w6.cell? ⟨bb, bo, none⟩ = some (.int .u8 ((st.gone + j : Nat) : Int)) := hby 0 (.int .u8 ((st.gone + j : Nat) : Int)) (by
              unfold bodyR bcells
              rw [List.map_set, List.getElem?_set_self (by simp; omega)]
              unfold bcell
              rw [UInt8.toNat_ofNat', Nat.mod_eq_of_lt (by omega)])
            clear hcell hrow hby
            have e1 : (k : Int) - (ln : Int) + (j : Int) = ((st.gone + j : Nat) : Int) := by omega
            have hj' : (j : Int) < (ln : Int) := by omega
            go_wp2_with fail
            go_round
            case rel => exact ⟨j + 1, by omega, by go_num⟩
            case measure => simp [intOf]; omega
          · have hj' : ¬ (j : Int) < (ln : Int) := by omega
            go_wp2_with fail
            go_ret
            exact ⟨rfl, HE.out.below⟩

end Go.Proofs.YtgdbkmecfbkobaaDoor.slogRound

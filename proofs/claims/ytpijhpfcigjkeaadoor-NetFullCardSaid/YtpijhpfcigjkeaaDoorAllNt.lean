/- Texts of one proof, behind one another: each says above its part what it proves and on which conditions. -/
import Derived.Test.YtpijhpfcigjkeaaDoorNtIf
import Derived.Test.YtpijhpfcigjkeaaDoorAllDel
import Derived.Test.YtpijhpfcigjkeaaDoorMsDecode
import Derived.Test.YtpijhpfcigjkeaaDoorMsBody
/-
  THE PROGRAM's NET (layer 20): what it holds in memory; New, Len, has; no net.
-/
section
namespace Go.Proofs.YtpijhpfcigjkeaaDoor
open Go Go.RowKit Go.Joins

/-- A message with where its bytes lie. -/
abbrev NP := Ms × Option Addr × Nat
def nval (p : NP) : Value := .slice p.2.1 (encM p.1).length p.2.2
theorem nval_one (L : List NP) : ∀ u ∈ L.map nval, u.oneCell' = true := fun u hu => by obtain ⟨p, -, rfl⟩ := List.mem_map.1 hu; rfl
theorem bytes_elem : Elem Tryd.prog 50 63 (.slice none 0 0) 1 24 := ⟨Tryd.underlying50, by kernel_rfl, rfl, by decide⟩
def NtBlk (w : World) (n : Nat) (v : Value) : Prop := w.heap[n]? = some (.cells #[v] 52 (0, 0))
section
variable {w w' : World} {n : Nat} {v : Value}
theorem NtBlk.cell (h : NtBlk w n v) : w.cell? ⟨n, 0, none⟩ = some v := (cell_of_block h 0).trans rfl
theorem NtBlk.lt (h : NtBlk w n v) : n < w.heap.size := (Array.getElem?_eq_some_iff.1 h).1
theorem NtBlk.keep {F : Nat → Prop} (h : NtBlk w n v) (hk : Keeps F w w') (hF : F n) : NtBlk w' n v := (hk.block n hF h.lt).trans h
theorem NtBlk.set (h : NtBlk w n v) (x : Value) : NtBlk (w.setCell ⟨n, 0, none⟩ x) n x := (block_setCell h _).trans rfl
theorem NtBlk.fz (h : NtBlk w n v) : w.frozen? ⟨n, 0, none⟩ = false := unfrozen_of_block h 0
end
/-- What a net holds in memory. -/
structure NtSt (w : World) (n : Nat) (F : Nat → Prop) (v : Value) (L : List NP) : Prop where
  blk : NtBlk w n v
  own : w.ownsRow 0 63 1 v L.length (L.map nval)
  fn : F n
  fo : ∀ b, v.ownBlock = some b → F b ∧ b ≠ n
  may : ∀ p ∈ L, mayM p.1 = true
  cap : ∀ p ∈ L, (encM p.1).length ≤ p.2.2 ∧ p.2.2 ≤ maxLen
  row : ∀ p ∈ L, Row w p.2.1 (fun b => F b ∧ b ≠ n ∧ v.ownBlock ≠ some b) (bcells (encM p.1))
section
variable {w w' : World} {n : Nat} {F G : Nat → Prop} {v : Value} {L : List NP}
theorem NtSt.keep (h : NtSt w n F v L) (hk : Keeps F w w') : NtSt w' n F v L :=
  ⟨h.blk.keep hk h.fn, hk.own h.own fun b hb => (h.fo b hb).1, h.fn, h.fo, h.may, h.cap, fun p hp => (h.row p hp).keep (hk.mono fun _ _ hb => hb.1)⟩
theorem NtSt.mono (h : NtSt w n F v L) (hF : ∀ b, b < w.heap.size → F b → G b) : NtSt w n G v L :=
  ⟨h.blk, h.own, hF n h.blk.lt h.fn, fun b hb => ⟨hF b (h.own.lt b hb).2 (h.fo b hb).1, (h.fo b hb).2⟩, h.may, h.cap, fun p hp => (h.row p hp).mono fun b hlt hb => ⟨hF b hlt hb.1, hb.2⟩⟩
theorem NtSt.form (h : NtSt w n F v L) : ∃ A c, v = .slice A L.length c := by
  rcases h.own.2 with ⟨rfl, h0⟩ | ⟨g, cap, cur, rfl, r⟩
  · exact ⟨none, 0, by rw [h0]⟩
  · exact ⟨_, _, rfl⟩
end

theorem nnew (w : World) : Calls Tryd.prog 9 #[] w fun e w' => e = .returned (.pointer (some ⟨w.heap.size, 0, none⟩)) ∧ w' = w.alloc (.cells #[.slice none 0 0] 52) := by
  go_enter Tryd.func9, Tryd.ntmps9
  go_wp2_with fail
  go_ret
  exact ⟨rfl, rfl⟩
theorem nlen (w : World) (n : Nat) (A : Option Addr) (c k : Nat) (hc : w.cell? ⟨n, 0, none⟩ = some (.slice A k c)) : Calls Tryd.prog 17 #[.pointer (some ⟨n, 0, none⟩)] w fun e w' => e = .returned (.int .i64 (k : Int)) ∧ w' = w := by
  go_enter Tryd.func17, Tryd.ntmps17
  go_wp2_with fail
  go_ret
  exact ⟨rfl, rfl⟩
theorem nlen_nil (w : World) : Calls Tryd.prog 17 #[.pointer none] w fun e w' => e = .returned (.int .i64 0) ∧ w' = w := by
  go_enter Tryd.func17, Tryd.ntmps17
  go_wp2_with fail
  go_ret
  exact ⟨rfl, rfl⟩
theorem nhas_of (w : World) (p : Value) (k i : Int) (h : Calls Tryd.prog 17 #[p] w fun e w' => e = .returned (.int .i64 k) ∧ w' = w) :
    Calls Tryd.prog 29 #[p, .int .i64 i] w fun e w' => e = .returned (.bool (decide (0 ≤ i) && decide (i < k))) ∧ w' = w := by
  have HL := Lib.hid h
  clear h
  by_cases h0 : 0 ≤ i
  · have t0 : decide (0 ≤ i) = true := decide_eq_true h0
    have HB := Lib.hid (show (decide (0 ≤ i) && decide (i < k)) = decide (i < k) from by rw [t0]; rfl)
    generalize hq : decide (i < k) = q at HB
    rw [HB.out]
    clear h0 HB
    go_enter Tryd.func29, Tryd.ntmps29
    go_wp2_with fail
    refine HL.out.mono ?_
    rintro e w1 ⟨rfl, rfl⟩
    cases q
    all_goals
      go_wp2_with fail
      go_ret
      exact ⟨rfl, rfl⟩
  · have t0 : decide (0 ≤ i) = false := decide_eq_false h0
    have HB := Lib.hid (show (decide (0 ≤ i) && decide (i < k)) = false from by rw [t0]; rfl)
    rw [HB.out]
    clear h0 HB
    go_enter Tryd.func29, Tryd.ntmps29
    go_wp2_with fail
    go_ret
    exact ⟨rfl, rfl⟩
theorem nhas (w : World) (n : Nat) (A : Option Addr) (c k : Nat) (i : Int) (hc : w.cell? ⟨n, 0, none⟩ = some (.slice A k c)) (b : Bool) (hb : (decide (0 ≤ i) && decide (i < (k : Int))) = b) :
    Calls Tryd.prog 29 #[.pointer (some ⟨n, 0, none⟩), .int .i64 i] w fun e w' => e = .returned (.bool b) ∧ w' = w := by
  rw [← hb]
  exact nhas_of w _ k i (nlen w n A c k hc)
theorem nhas_nil (w : World) (i : Int) : Calls Tryd.prog 29 #[.pointer none, .int .i64 i] w fun e w' => e = .returned (.bool false) ∧ w' = w := by
  have h := nhas_of w (.pointer none) 0 i (nlen_nil w)
  rw [show (decide (0 ≤ i) && decide (i < 0)) = false by
    by_cases h0 : 0 ≤ i
    · rw [decide_eq_false (show ¬ i < 0 by omega), Bool.and_false]
    · rw [decide_eq_false h0]; rfl] at h
  exact h

end Go.Proofs.YtpijhpfcigjkeaaDoor
end

/-
  THE PROGRAM's NET (layer 20): Send.
-/
section
namespace Go.Proofs.YtpijhpfcigjkeaaDoor
open Go Go.RowKit Go.Joins

theorem sent_append (a b l : List Ms) : sent l (a ++ b) = ((sent (sent l a).1 b).1, (sent l a).2 + (sent (sent l a).1 b).2) := by
  induction a generalizing l with
  | nil => simp [sent]
  | cons m a ih =>
    by_cases h : (mayM m && decide (l.length < 300)) = true
    · simp only [List.cons_append, sent, h, if_true]
      rw [ih]
      simp; omega
    · simp only [List.cons_append, sent, h, Bool.false_eq_true, if_false]
      rw [ih]
theorem sent_count (ms l : List Ms) : (sent l ms).1.length = l.length + (sent l ms).2 := by
  induction ms generalizing l with
  | nil => simp [sent]
  | cons m ms ih =>
    by_cases h : (mayM m && decide (l.length < 300)) = true
    · simp only [sent, h, if_true]
      rw [ih, List.length_append]
      simp; omega
    · simp only [sent, h, Bool.false_eq_true, if_false]
      rw [ih]
theorem sent_over {l : List Ms} (h : 300 ≤ l.length) (ms : List Ms) : sent l ms = (l, 0) := by
  induction ms with
  | nil => rfl
  | cons m ms ih =>
    have h2 : (mayM m && decide (l.length < 300)) = false := by rw [decide_eq_false (by omega), Bool.and_false]
    simp only [sent, h2, Bool.false_eq_true, if_false]
    exact ih
theorem sent_le (ms l : List Ms) (h : l.length ≤ 300) : (sent l ms).1.length ≤ 300 := by
  induction ms generalizing l with
  | nil => exact h
  | cons m ms ih =>
    by_cases h2 : (mayM m && decide (l.length < 300)) = true
    · simp only [sent, h2, if_true]
      rw [Bool.and_eq_true, decide_eq_true_eq] at h2
      exact ih _ (by rw [List.length_append]; show l.length + 1 ≤ 300; omega)
    · simp only [sent, h2, Bool.false_eq_true, if_false]
      exact ih _ h
theorem take_snoc20 {α : Type} {l : List α} {j : Nat} (h : j < l.length) : l.take (j + 1) = l.take j ++ [l[j]] := by
  rw [List.take_add_one, List.getElem?_eq_getElem h]; rfl
/-- One message more. -/
theorem sent_next {ps : List Ms} {j : Nat} (h : j < ps.length) (l L : List Ms) (hL : L = (sent l (ps.take j)).1) (hl : L.length < 300) :
    (sent l (ps.take (j + 1))).1 = if mayM ps[j] then L ++ [ps[j]] else L := by
  rw [take_snoc20 h, sent_append, ← hL]
  by_cases hm : mayM ps[j] = true
  · rw [if_pos hm]
    simp [sent, hm, hl]
  · have hm : mayM ps[j] = false := by simpa using hm
    rw [hm]
    simp [sent, hm]
theorem sent_rest {ps : List Ms} (j : Nat) (l L : List Ms) (hL : L = (sent l (ps.take j)).1) (hl : 300 ≤ L.length) : (sent l ps).1 = L := by
  have e : ps = ps.take j ++ ps.drop j := (List.take_append_drop j ps).symm
  rw [e, sent_append, ← hL, sent_over hl]

theorem nsend_nil (w : World) (x : Value) : Calls Tryd.prog 12 #[.pointer none, x] w fun e w' => e = .returned (.int .i64 0) ∧ w' = w := by
  go_enter Tryd.func12, Tryd.ntmps12
  go_wp2_with fail
  go_ret
  exact ⟨rfl, rfl⟩
/-- What holds ahead of each message. -/
structure SndIn (w wr : World) (n : Nat) (F : Nat → Prop) (v : Value) (L : List NP) (l : List Ms) : Prop where
  st : NtSt wr n (fun b => F b ∨ w.heap.size ≤ b) v L
  kp : Keeps (fun b => ¬ F b) w wr
  is : L.map (·.1) = l
theorem SndIn.keep {w wr w2 : World} {n : Nat} {F : Nat → Prop} {v : Value} {L : List NP} {l : List Ms} (h : SndIn w wr n F v L l) (hk : Kp wr w2) : SndIn w w2 n F v L l :=
  ⟨h.st.keep (hk.mono fun _ _ _ => trivial), h.kp.trans (hk.mono fun _ _ _ => trivial), h.is⟩
/-- A message's bytes are put behind. -/
theorem SndIn.put {w w1 w2 : World} {n : Nat} {F : Nat → Prop} {v v' : Value} {L : List NP} {l : List Ms} (h : SndIn w w1 n F v L l) (_hF : ∀ b, F b → b < w.heap.size) (m : Ms) (A : Option Addr) (c : Nat) (hm : mayM m = true) (hc : (encM m).length ≤ c ∧ c ≤ maxLen)
    (hr : Row w1 A (fun b => w.heap.size ≤ b ∧ b ≠ n ∧ v.ownBlock ≠ some b) (bcells (encM m))) (ho : w2.ownsRow 0 63 1 v' (L.length + 1) (L.map nval ++ [nval (m, A, c)])) (hg : w1.grownBy w2 v.ownBlock) (hb : v'.ownBlock = v.ownBlock ∨ v'.ownBlock = some w1.heap.size) (_hs : ∀ b, v.ownBlock = some b → b < w1.heap.size) :
    NtBlk w2 n v ∧ SndIn w (w2.setCell ⟨n, 0, none⟩ v') n F v' (L ++ [(m, A, c)]) (l ++ [m]) := by
  have hk : Keeps (fun b => v.ownBlock ≠ some b) w1 w2 := Keeps.of_grown hg fun b e _ hn => hn e
  have hnv : v.ownBlock ≠ some n := fun e => (h.st.fo n e).2 rfl
  have hb2 : NtBlk w2 n v := h.st.blk.keep hk hnv
  have hset : Keeps (fun b => b ≠ n) w2 (w2.setCell ⟨n, 0, none⟩ v') := (Keeps.refl _ _).setCell (.inr fun hh => hh rfl) _
  have hnl := h.st.blk.lt
  have hww := h.kp.size
  have hfo : ∀ b, v'.ownBlock = some b → (F b ∨ w.heap.size ≤ b) ∧ b ≠ n := fun b e => by
    rcases hb with e2 | e2
    · exact h.st.fo b (by rw [← e2]; exact e)
    · rw [e2] at e; injection e with e; exact ⟨.inr (by omega), by omega⟩
  have hne : ∀ b, b < w1.heap.size → v.ownBlock ≠ some b → v'.ownBlock ≠ some b := fun b hlt hv e => by
    rcases hb with e2 | e2
    · exact hv (by rw [← e2]; exact e)
    · rw [e2] at e; injection e with e; omega
  have hk1 : Keeps (fun b => b ≠ n ∧ v.ownBlock ≠ some b) w1 (w2.setCell ⟨n, 0, none⟩ v') := (hk.mono fun _ _ hb => hb.2).trans (hset.mono fun _ _ hb => hb.1)
  refine ⟨hb2, ⟨hb2.set _, ?_, h.st.fn, hfo, fun p hp => ?_, fun p hp => ?_, fun p hp => ?_⟩, ?_, by rw [List.map_append, h.is]; rfl⟩
  · rw [List.length_append, List.map_append]
    exact hset.own ho fun b e => (hfo b e).2
  · rcases List.mem_append.1 hp with hp | hp
    · exact h.st.may p hp
    · rw [List.mem_singleton.1 hp]; exact hm
  · rcases List.mem_append.1 hp with hp | hp
    · exact h.st.cap p hp
    · rw [List.mem_singleton.1 hp]; exact hc
  · rcases List.mem_append.1 hp with hp | hp
    · have h1 := h.st.row p hp
      have h2 : Row w1 p.2.1 (fun b => ((F b ∨ w.heap.size ≤ b) ∧ b ≠ n ∧ v.ownBlock ≠ some b) ∧ b < w1.heap.size) (bcells (encM p.1)) := h1.mono fun b hlt hb => ⟨hb, hlt⟩
      exact (h2.keep (hk1.mono fun _ _ hb => hb.1.2)).mono fun b _ hb => ⟨hb.1.1, hb.1.2.1, hne b hb.2 hb.1.2.2⟩
    · rw [List.mem_singleton.1 hp]
      have h2 : Row w1 A (fun b => (w.heap.size ≤ b ∧ b ≠ n ∧ v.ownBlock ≠ some b) ∧ b < w1.heap.size) (bcells (encM m)) := hr.mono fun b hlt hb => ⟨hb, hlt⟩
      exact (h2.keep (hk1.mono fun _ _ hb => hb.1.2)).mono fun b _ hb => ⟨.inr hb.1.1, hb.1.2.1, hne b hb.2 hb.1.2.2⟩
  · refine ⟨hk1.os.trans h.kp.os, hk1.tape.trans h.kp.tape, hk1.output.trans h.kp.output, Nat.le_trans h.kp.size hk1.size, fun b hb hlt => (hk1.block b ⟨fun e => ?_, fun e => ?_⟩ (Nat.lt_of_lt_of_le hlt h.kp.size)).trans (h.kp.block b hb hlt)⟩
    · subst e
      rcases h.st.fn with h1 | h1
      · exact hb h1
      · omega
    · rcases (h.st.fo b e).1 with h1 | h1
      · exact hb h1
      · omega

end Go.Proofs.YtpijhpfcigjkeaaDoor
end

/-
  THE PROGRAM's NET (layer 20): Send, walked.
-/
section
namespace Go.Proofs.YtpijhpfcigjkeaaDoor
open Go Go.RowKit Go.Joins

set_option maxRecDepth 100000 in
set_option maxHeartbeats 4000000 in
theorem nsend (w : World) (n : Nat) (F : Nat → Prop) (v0 : Value) (L0 : List NP) (A : Option Addr) (c k : Nat) (G : Nat → Prop) (ps : List MP) (hT : ∀ W, Keeps (fun b => ¬ F b) w W → Taken W) (h : NtSt w n F v0 L0) (hlt : ∀ b, F b → b < w.heap.size) (hL : L0.length ≤ 300) (hk : k = ps.length)
    (hps : MsgsAt w A G G ps) (hG : ∀ b, G b → ¬ F b) (_hkc : k ≤ c) (_hcm : c ≤ maxLen) (hk1 : k ≤ 1000) (hft : ∀ p ∈ ps, p.1.Fits) :
    Calls Tryd.prog 12 #[.pointer (some ⟨n, 0, none⟩), .slice A k c] w fun e w' => e = .returned (.int .i64 ((sent (L0.map (·.1)) (ps.map (·.1))).2 : Int)) ∧
      ∃ v L, SndIn w w' n F v L (sent (L0.map (·.1)) (ps.map (·.1))).1 := by
  obtain ⟨l0, hl0⟩ : ∃ l0, L0.map (·.1) = l0 := ⟨_, rfl⟩
  obtain ⟨ms, hms⟩ : ∃ ms, ps.map (·.1) = ms := ⟨_, rfl⟩
  rw [hl0, hms]
  have hll : l0.length = L0.length := by rw [← hl0, List.length_map]
  have HLL := Lib.hid hll
  have hms_len : ms.length = k := by rw [← hms, List.length_map, hk]
  have HML := Lib.hid hms_len
  have HLT := Lib.hid hlt
  have HT := Lib.hid hT
  have HG := Lib.hid hG
  have HPS := Lib.hid hps
  have HFT := Lib.hid hft
  have HKP := Lib.hid hk
  have HAT := Lib.hid (show ∀ j (hj : j < ps.length), ms[j]? = some ps[j].1 from fun j hj => by rw [← hms, List.getElem?_map, List.getElem?_eq_getElem hj]; rfl)
  obtain ⟨q0, hq0⟩ : ∃ q, L0.length = q := ⟨_, rfl⟩
  have HQ0 := Lib.hid hq0
  have HIN := Lib.hid (show SndIn w w n F v0 L0 (sent l0 (ms.take 0)).1 from ⟨h.mono fun _ _ hb => .inl hb, Keeps.refl _ _, by rw [List.take_zero]; exact hl0⟩)
  obtain ⟨B0, c0, rfl⟩ := h.form
  have hcell := h.blk.cell
  rw [hq0] at hcell hL
  unfold maxLen at _hcm
  have HFIN := Lib.hid (show ∀ (wr : World) (v : Value) (L : List NP) (q : Nat), q = L.length → SndIn w wr n F v L (sent l0 ms).1 → Ending.returned (.int .i64 ((q : Int) - (q0 : Int))) = .returned (.int .i64 ((sent l0 ms).2 : Int)) from fun wr v L q hq hs => by
    have h1 := sent_count ms l0
    rw [← hs.is, List.length_map, hll, hq0, ← hq] at h1
    rw [show (q : Int) - (q0 : Int) = ((sent l0 ms).2 : Int) by omega])
  clear h hlt hT hG hps hft hk hl0 hms hll hms_len hq0
  go_enter Tryd.func12, Tryd.ntmps12
  go_wp2_with fail
  go_loopw [18] (fun i wr => ∃ (j : Nat) (v : Value) (L : List NP), j ≤ k ∧ i = .int .i64 (j : Int) ∧ L.length ≤ 300 ∧ Hid (SndIn w wr n F v L (sent l0 (ms.take j)).1)) (fun i _ => k - (intOf i).toNat)
  case atStart => exact ⟨0, _, L0, Nat.zero_le _, rfl, by rw [HQ0.out]; exact hL, HIN⟩
  case round =>
    clear HIN hcell
    obtain ⟨j, v, L, hj, rfl, hL2, hs⟩ := hrel
    obtain ⟨B, d, rfl⟩ := hs.out.st.form
    obtain ⟨q, hq⟩ : ∃ q, L.length = q := ⟨_, rfl⟩
    have HQ := Lib.hid hq
    have hcl := hs.out.st.blk.cell
    rw [hq] at hcl hL2
    clear hq
    by_cases hjk : j < k
    · have hjp : j < ps.length := by have := HKP.out; omega
      have hjk2 : (j : Int) < (k : Int) := by omega
      have hpsr : MsgsAt wr A (fun b => ¬ F b) (fun b => ¬ F b) ps := ⟨(HPS.out.row.keep (hs.out.kp.mono fun b _ hb => HG.out b hb)).mono fun b _ hb => HG.out b hb, fun p hp => ((HPS.out.lists p hp).keep (hs.out.kp.mono fun b _ hb => HG.out b hb)).mono fun b _ hb => HG.out b hb⟩
      obtain ⟨mb, mo, rfl, -, hmc⟩ := msRow_cells hpsr.row hjp
      have HIN := Lib.hid (hpsr.lists ps[j] (List.getElem_mem hjp)).at_
      have HF := Lib.hid (HFT.out ps[j] (List.getElem_mem hjp))
      have HMJ := Lib.hid (HAT.out j hjp)
      clear hpsr
      generalize ps[j] = p at hmc HIN HF HMJ
      obtain ⟨m, a⟩ := p
      have HMC := Lib.hid hmc
      obtain ⟨vM, hvM⟩ : ∃ v, msV m a = v := ⟨_, rfl⟩
      have HVM := Lib.hid hvM
      have HS := Lib.hid hs.out
      have hwz := hs.out.kp.size
      clear hmc hvM hs
      go_upto_region 7 with (first
        | (refine list_loadR rfl (.tmp 20) rfl mb (mo + j * 21) (m, a) HMC.out rfl vM HVM.out ?_)
        | (refine list_allocM rfl rfl ?_; intro w1 hb1 hk1 hs1)
        | (refine list_storeM rfl (.tmp 7) (.tmp 21) rfl _ ms0 m msA0 a hb1 rfl HVM.out.symm ?_; intro w2 hb2 hk2 hs2))
      obtain ⟨x, hx⟩ : ∃ x, wr.heap.size = x := ⟨_, rfl⟩
      rw [hx] at hb1 hb2 hk2 hs1 hwz ⊢
      have hk02 : Kp wr w2 := kp_behind hk1 hk2 (by omega)
      have HS2 := Lib.hid (HS.out.keep hk02)
      have HIN2 := Lib.hid (HIN.out.keep hk02)
      have HB2 := Lib.hid hb2
      have HX := Lib.hid (show n < x ∧ (∀ b, (Value.slice B L.length d).ownBlock = some b → b < x) ∧ x < w2.heap.size from ⟨by rw [← hx]; exact HS.out.st.blk.lt, fun b e => by rw [← hx]; exact (HS.out.st.own.lt b e).2, by omega⟩)
      have hcl2 : w2.cell? ⟨n, 0, none⟩ = some (.slice B q d) := by
        have := HS2.out.st.blk.cell
        rw [HQ.out] at this
        exact this
      clear hb1 hk1 hs1 hb2 hk2 hs2 hx hcl HS HIN hk02
      by_cases hq : 300 ≤ q
      · have tq : decide ((300 : Int) ≤ (q : Int)) = true := decide_eq_true (by omega)
        have HE := Lib.hid (show SndIn w w2 n F (.slice B L.length d) L (sent l0 ms).1 from by
          have hh := HS2.out
          rw [sent_rest j l0 _ hh.is (by rw [List.length_map, HQ.out]; exact hq)]
          rw [← hh.is] at hh
          exact hh)
        clear hq
        go_wp2_with fail
        go_ret
        exact ⟨HFIN.out _ _ _ q HQ.out.symm HE.out, _, _, HE.out⟩
      · have tq : decide ((300 : Int) ≤ (q : Int)) = false := decide_eq_false (by omega)
        have HENC := Lib.hid (mencode w2 m a (HT.out _ HS2.out.kp) HIN2.out HF.out)
        have HNX := Lib.hid (sent_next (ps := ms) (j := j) (by have := HML.out; omega) l0 _ HS2.out.is (by rw [List.length_map, HQ.out]; omega))
        clear hq HT HFT
        cases hmm : mayM m with
        | false =>
          have HNX2 := Lib.hid (show SndIn w w2 n F (.slice B L.length d) L (sent l0 (ms.take (j + 1))).1 from by
            have e := HNX.out
            rw [show ms[j]'(by have := HML.out; omega) = m from Option.some.inj ((List.getElem?_eq_getElem _).symm.trans HMJ.out), hmm] at e
            rw [e]
            exact ⟨HS2.out.st, HS2.out.kp, by simp⟩)
          clear HNX
          have HM0 := Lib.hid (HENC.out.mono fun e w' hh => show e = .returned (.slice none 0 0) ∧ Kp w2 w' from ⟨hh.2.1 hmm, hh.2.2⟩)
          clear HENC hmm
          go_wp2_with (refine list_loadM rfl (.tmp 7) rfl x _ _ HB2.out rfl vM HVM.out ?_)
          rw [← HVM.out]
          refine (HM0.out).mono ?_
          rintro e w3 ⟨rfl, hk3⟩
          have HS3 := Lib.hid (HNX2.out.keep hk3)
          clear hk3 HM0 HNX2
          have hneq : ∀ W, (binOp .neq 63 (.slice none 0 0) (.slice none 0 0)).run Tryd.prog W = .ok (.bool false) W := fun _ => rfl
          go_wp2_with fail
          go_roundw
          case rel => exact ⟨j + 1, _, L, by omega, by go_num, by rw [HQ.out]; omega, HS3⟩
          case measure => simp [intOf]; omega
        | true =>
          have HM0 := Lib.hid (HENC.out.mono fun e w' hh => And.intro (hh.1 hmm) hh.2.2)
          have HNX2 := Lib.hid (show (sent l0 (ms.take (j + 1))).1 = (sent l0 (ms.take j)).1 ++ [m] from by
            have e := HNX.out
            rw [show ms[j]'(by have := HML.out; omega) = m from Option.some.inj ((List.getElem?_eq_getElem _).symm.trans HMJ.out), hmm, if_pos rfl] at e
            rw [e, HS2.out.is])
          have HMM := Lib.hid hmm
          clear HENC hmm HNX
          go_wp2_with (refine list_loadM rfl (.tmp 7) rfl x _ _ HB2.out rfl vM HVM.out ?_)
          rw [← HVM.out]
          refine (HM0.out).mono ?_
          rintro e w3 ⟨⟨A2, c2, rfl, hc1, hc2, hrow⟩, hk3⟩
          have HW23 := Lib.hid hk3.size
          obtain ⟨b2, o2, rfl, -, -⟩ := hrow.at_ (k := 0) (by rw [bcells_len, encM_len]; omega)
          have HS3 := Lib.hid (HS2.out.keep hk3)
          have hcl3 : w3.cell? ⟨n, 0, none⟩ = some (.slice B q d) := by
            have := HS3.out.st.blk.cell
            rw [HQ.out] at this
            exact this
          have HO3 := Lib.hid (show w3.ownsRow 0 63 1 (.slice B q d) q (L.map nval) from by
            have := HS3.out.st.own
            rw [HQ.out] at this
            exact this)
          have HR3 := Lib.hid (show ∀ o, Row (w3.alloc o) (some ⟨b2, o2, none⟩) (fun b => w.heap.size ≤ b ∧ b ≠ n ∧ (Value.slice B L.length d).ownBlock ≠ some b) (bcells (encM m)) from fun o => (hrow.keep ((Keeps.refl _ _).alloc o)).mono fun b _ hb => ⟨by have := HX.out.2.2; omega, by have := HX.out; omega, fun e => by have := HX.out.2.1 b e; have := HX.out.2.2; omega⟩)
          have HC := Lib.hid (And.intro hc1 hc2)
          have HEV := Lib.hid (show nval (m, some ⟨b2, o2, none⟩, c2) = .slice (some ⟨b2, o2, none⟩) (encM m).length c2 from rfl)
          obtain ⟨y, hy⟩ : ∃ y, (encM m).length = y := ⟨_, rfl⟩
          have HY := Lib.hid hy
          rw [hy] at HEV ⊢
          clear hrow hk3 hcl2 hc1 hc2 HM0 hy HB2 HIN2 HS2
          have hneq : ∀ W, (binOp .neq 63 (.slice (some ⟨b2, o2, none⟩) y c2) (.slice none 0 0)).run Tryd.prog W = .ok (.bool true) W := fun _ => rfl
          go_wp2_with (at_builtin; refine bytes_elem.list_append rfl (.tmp 36) (.tmp 38) _ rfl rfl (HO3.out.alloc _) rfl (src_one Tryd.underlying50 _ _ _ ?c1 _ ?c2 _) ?c3 ?c4 ?c5 ?_)
          case c1 => rfl
          case c2 => rfl
          case c3 => unfold maxLen; omega
          case c4 => omega
          case c5 => exact Nat.zero_le _
          intro v4 w4 ho4 hg4 hb4
          obtain ⟨A4, d4, rfl⟩ := own_form5 ho4
          have hob : (Value.slice B q d).ownBlock = (Value.slice B L.length d).ownBlock := by cases B <;> rfl
          rw [hob] at hg4 hb4
          have hput := (HS3.out.keep ((Keeps.refl _ w3).alloc (.cells #[.slice (some ⟨b2, o2, none⟩) y c2] 63))).put (v' := .slice A4 (q + 1) d4) (w2 := w4) HLT.out m (some ⟨b2, o2, none⟩) c2 HMM.out HC.out (HR3.out _) (by rw [HQ.out, HEV.out]; exact ho4) hg4 (hb4.imp id fun e => by rw [e]; simp) (fun b e => by have := HX.out.2.1 b e; have := HX.out.2.2; have := (HS3.out.kp).size; have := hg4.size; have hw23 := HW23.out; simp; omega)
          obtain ⟨hbk, hsn⟩ := hput
          have c4 : w4.cell? ⟨n, 0, none⟩ = some (.slice B L.length d) := hbk.cell
          have f4 := hbk.fz
          have HS5 := Lib.hid (show SndIn w (w4.setCell ⟨n, 0, none⟩ (.slice A4 (q + 1) d4)) n F (.slice A4 (q + 1) d4) (L ++ [(m, some ⟨b2, o2, none⟩, c2)]) (sent l0 (ms.take (j + 1))).1 from by rw [HNX2.out]; exact hsn)
          have hl1 : (L ++ [(m, some (⟨b2, o2, none⟩ : Addr), c2)]).length ≤ 300 := by rw [List.length_append, HQ.out]; show q + 1 ≤ 300; have := of_decide_eq_false tq; omega
          clear ho4 hg4 hb4 hbk hsn hcl3 HO3 HR3 HC HEV HY HS3
          go_wp2_with fail
          go_roundw
          case rel => exact ⟨j + 1, _, _, by omega, by go_num, hl1, HS5⟩
          case measure => simp [intOf]; omega
    · have HE := Lib.hid (show SndIn w wr n F (.slice B L.length d) L (sent l0 ms).1 from by
        have := hs.out
        rw [show j = ms.length from by have := HML.out; omega, List.take_length] at this
        exact this)
      clear hs
      go_wp2_with fail
      go_ret
      exact ⟨HFIN.out _ _ _ q HQ.out.symm HE.out, _, _, HE.out⟩

end Go.Proofs.YtpijhpfcigjkeaaDoor
end

/-
  THE PROGRAM's NET (layer 20): Look.
-/
section
namespace Go.Proofs.YtpijhpfcigjkeaaDoor
open Go Go.RowKit Go.Joins

theorem NtSt.cells {w : World} {n : Nat} {F : Nat → Prop} {v : Value} {L : List NP} (h : NtSt w n F v L) {i : Nat} (hi : i < L.length) :
    ∃ g c, v = .slice (some ⟨g, 0, none⟩) L.length c ∧ L.length ≤ c ∧ c ≤ maxLen ∧ w.cell? ⟨g, i, none⟩ = some (nval L[i]) := by
  obtain ⟨g, c, rfl, -, -⟩ := h.own.form (by omega)
  have := h.own.cells (g := g) rfl i (nval L[i]) (by rw [List.getElem?_map, List.getElem?_eq_getElem hi]; rfl)
  rw [WideShapes.add_plain, Nat.zero_add] at this
  exact ⟨g, c, rfl, (own_room h.own).1, (own_room h.own).2, this⟩
set_option maxRecDepth 100000 in
set_option maxHeartbeats 2000000 in
theorem nlook (w : World) (hT : Taken w) (n : Nat) (F : Nat → Prop) (v : Value) (L : List NP) (i : Nat) (hi : i < L.length) (h : NtSt w n F v L) :
    Calls Tryd.prog 13 #[.pointer (some ⟨n, 0, none⟩), .int .i64 (i : Int)] w fun e w' =>
      (∃ a, e = .returned (.tuple #[msV L[i].1 a, .bool true]) ∧ MsIn w' L[i].1 a (fun b => w.heap.size ≤ b ∧ b < w'.heap.size) ∧ MsFree w' L[i].1 a) ∧ Kp w w' := by
  obtain ⟨g, c, rfl, hc1, hc2, hcell⟩ := h.cells hi
  have hmem := List.getElem_mem hi
  have hmay := h.may _ hmem
  have hcap := h.cap _ hmem
  have hrow := h.row _ hmem
  have hblk := h.blk
  generalize L[i] = p at *
  obtain ⟨m, B, d⟩ := p
  simp only at hmay hcap hrow ⊢
  have hel : (encM m).length ≤ 100000 := by have := bodyM_len hmay; rw [encM_len]; omega
  have HMAY := Lib.hid hmay
  have hbn : n < w.heap.size := hblk.lt
  have hbg : g < w.heap.size := World.block_lt_of_cell? w _ hcell
  have HHAS := Lib.hid (fun (W : World) (hk : Kp w W) => nhas W n (some ⟨g, 0, none⟩) c L.length (i : Int) (hblk.keep hk trivial).cell true (by rw [decide_eq_true (show (0 : Int) ≤ (i : Int) by omega), decide_eq_true (show (i : Int) < (L.length : Int) by omega)]; rfl))
  have HDEC := Lib.hid (fun (W : World) (hk : Kp w W) => mdecode W (hT.keep hk) B d (encM m) ((hrow.keep (hk.mono fun _ _ _ => trivial)).mono fun _ _ _ => trivial) hcap.1 hcap.2 (by omega))
  have HCL := Lib.hid (fun (W : World) (hk : Kp w W) => (show W.cell? ⟨n, 0, none⟩ = some (.slice (some ⟨g, 0, none⟩) L.length c) ∧ W.cell? ⟨g, i, none⟩ = some (.slice B (encM m).length d) from ⟨(hblk.keep hk trivial).cell, (hk.cell hcell trivial)⟩))
  generalize (encM m).length = q at HDEC HCL hel
  generalize L.length = k at *
  clear hmay hcap hrow hblk hcell hmem h hT
  go_enter Tryd.func13, Tryd.ntmps13
  go_upto_region 1 with (refine list_allocM rfl rfl ?_; intro w1 hb1 hk1 hs1)
  obtain ⟨r, hr⟩ : ∃ r, w.heap.size = r := ⟨_, rfl⟩
  rw [hr] at hb1 hs1 hbn hbg ⊢
  have HB1 := Lib.hid hb1
  have HK1 := Lib.hid hk1
  have HG := Lib.hid hr
  clear hb1 hk1 hr
  go_wp2_with fail
  refine (HHAS.out _ HK1.out).mono ?_
  rintro e w2 ⟨rfl, rfl⟩
  obtain ⟨q1, q2⟩ := HCL.out _ HK1.out
  clear HHAS HCL
  go_wp2_with fail
  refine (HDEC.out _ HK1.out).mono ?_
  rintro e w3 ⟨hk3, (⟨m', a, hm', he, hin, hfr, rfl⟩ | ⟨hno, rfl⟩)⟩
  · obtain rfl : m' = m := by
      have e1 := decM_enc hm'
      rw [he, decM_enc HMAY.out] at e1
      exact (Option.some.inj e1).symm
    obtain ⟨vM, hvM⟩ : ∃ v, msV m' a = v := ⟨_, rfl⟩
    have HVM := Lib.hid hvM
    rw [hvM]
    have HK3 := Lib.hid (HK1.out.trans hk3)
    have HB3 := Lib.hid (HB1.out.kp hk3)
    have hgs3 : r < w3.heap.size := by have := hk3.size; omega
    have HIN := Lib.hid hin
    have HFR := Lib.hid hfr
    have hs13 := hk3.size
    clear hm' he hin hfr hk3 hvM HDEC HB1 q1 q2
    go_upto_region 4 with (first
      | (refine list_allocM rfl rfl ?_; intro w4 hb4 hk4 hs4)
      | (refine list_storeM rfl (.tmp 6) (.tmp 22) rfl _ ms0 m' msA0 a hb4 rfl HVM.out.symm ?_; intro w5 hb5 hk5 hs5))
    obtain ⟨b, hb⟩ : ∃ b, w3.heap.size = b := ⟨_, rfl⟩
    rw [hb] at hb4 hb5 hk5 hs4 hgs3 hs13 ⊢
    have HM5 := Lib.hid hb5
    have hk35 : Kp w3 w5 := kp_behind hk4 hk5 (by omega)
    have HK35 := Lib.hid hk35
    have HK5 := Lib.hid (HK3.out.trans hk35)
    have HB5 := Lib.hid (HB3.out.kp hk35)
    have HBB := Lib.hid hb
    clear hb4 hk4 hs4 hb5 hk5 hs5 hk35 hb HB3
    go_wp2_with (first
      | (refine list_loadM rfl (.tmp 6) rfl b _ _ HM5.out rfl vM HVM.out ?_)
      | (refine list_storeM rfl (.tmp 4) (.tmp 24) rfl r _ m' _ a HB5.out rfl HVM.out.symm ?_; intro wz hbz hkz hsz))
    refine bodyPost_ret (v := .tuple #[msV m' a, .bool true]) (results_cell2 rfl rfl rfl (run_loadM hbz)) rfl ?_
    have hkf : Keeps (fun x => w2.heap.size ≤ x ∧ x < w3.heap.size) w3 wz := (HK35.out.mono fun _ _ _ => trivial).trans (hkz.mono fun x _ hx => by omega)
    refine ⟨⟨a, rfl, (HIN.out.keep hkf).mono fun x hx hb => ⟨by have := HG.out; have := hb.1; omega, hx⟩, HFR.out.keep HIN.out hkf⟩, kp_behind HK5.out hkz (by have := HG.out; omega)⟩
  · exact absurd rfl (hno m HMAY.out)

set_option maxRecDepth 100000 in
set_option maxHeartbeats 1000000 in
/-- Look of what is not there, whatever says so. -/
theorem nlook_not (w : World) (p : Value) (i : Int) (h : ∀ W, Kp w W → Calls Tryd.prog 29 #[p, .int .i64 i] W fun e w' => e = .returned (.bool false) ∧ w' = W) :
    Calls Tryd.prog 13 #[p, .int .i64 i] w fun e w' => e = .returned (.tuple #[msV ms0 msA0, .bool false]) ∧ Kp w w' := by
  have HH := Lib.hid h
  obtain ⟨vZ, hvZ⟩ : ∃ v, msV ms0 msA0 = v := ⟨_, rfl⟩
  have HVZ := Lib.hid hvZ
  clear h hvZ
  go_enter Tryd.func13, Tryd.ntmps13
  go_upto_region 1 with (refine list_allocM rfl rfl ?_; intro w1 hb1 hk1 hs1)
  obtain ⟨r, hr⟩ : ∃ r, w.heap.size = r := ⟨_, rfl⟩
  rw [hr] at hb1 hs1 ⊢
  have HB1 := Lib.hid hb1
  have HK1 := Lib.hid hk1
  have HG := Lib.hid hr
  clear hb1 hk1 hr
  go_wp2_with fail
  refine (HH.out _ HK1.out).mono ?_
  rintro e w2 ⟨rfl, rfl⟩
  clear HH
  go_wp2_with (first
    | (refine list_buildM rfl _ rfl vZ (by rw [← HVZ.out]; kernel_rfl) ?_)
    | (refine list_storeM rfl (.tmp 4) (.tmp 12) rfl r _ ms0 _ msA0 HB1.out rfl HVZ.out.symm ?_; intro wz hbz hkz hsz))
  refine bodyPost_ret (v := .tuple #[msV ms0 msA0, .bool false]) (results_cell2 rfl rfl rfl (run_loadM hbz)) rfl ?_
  exact ⟨rfl, kp_behind HK1.out hkz (by have := HG.out; omega)⟩

end Go.Proofs.YtpijhpfcigjkeaaDoor
end

/-
  THE PROGRAM's NET (layer 20): Drop.
-/
section
namespace Go.Proofs.YtpijhpfcigjkeaaDoor
open Go Go.RowKit Go.Joins

theorem map_erase {α β : Type} (f : α → β) (L : List α) (i : Nat) : (L.map f).eraseIdx i = (L.eraseIdx i).map f := by
  rw [List.eraseIdx_eq_take_drop_succ, List.eraseIdx_eq_take_drop_succ, List.map_append, List.map_take, List.map_drop]
theorem ndrop_not (w : World) (p : Value) (i : Int) (h : Calls Tryd.prog 29 #[p, .int .i64 i] w fun e w' => e = .returned (.bool false) ∧ w' = w) :
    Calls Tryd.prog 16 #[p, .int .i64 i] w fun e w' => e = .returned (.bool false) ∧ w' = w := by
  have HH := Lib.hid h
  clear h
  go_enter Tryd.func16, Tryd.ntmps16
  go_wp2_with fail
  refine HH.out.mono ?_
  rintro e w2 ⟨rfl, rfl⟩
  go_wp2_with fail
  go_ret
  exact ⟨rfl, rfl⟩
set_option maxRecDepth 100000 in
set_option maxHeartbeats 1000000 in
theorem ndrop (w : World) (n : Nat) (F : Nat → Prop) (v : Value) (L : List NP) (i : Nat) (hi : i < L.length) (h : NtSt w n F v L) :
    Calls Tryd.prog 16 #[.pointer (some ⟨n, 0, none⟩), .int .i64 (i : Int)] w fun e w' => e = .returned (.bool true) ∧ (∃ v', NtSt w' n F v' (L.eraseIdx i)) ∧ Keeps (fun b => ¬ F b) w w' := by
  obtain ⟨g, c, rfl, hc1, hc2, hcell⟩ := h.cells hi
  have HC := Lib.hid h.blk.cell
  have hlen : (L.eraseIdx i).length = L.length - 1 := by rw [List.length_eraseIdx_of_lt hi]
  have hgF := h.fo g rfl
  obtain ⟨k, hk⟩ : ∃ k, L.length = k + 1 := ⟨L.length - 1, by omega⟩
  have hlen2 : (L.eraseIdx i).length = k := by omega
  have HHAS := Lib.hid (nhas w n (some ⟨g, 0, none⟩) c L.length (i : Int) h.blk.cell true (by rw [decide_eq_true (show (0 : Int) ≤ (i : Int) by omega), decide_eq_true (show (i : Int) < (L.length : Int) by omega)]; rfl))
  have hdel := ndelete w 0 g c L.length i (i + 1) k (L.map nval) h.own rfl hk (by omega) (nval_one L)
  rw [show ((i + 1 : Nat) : Int) = (i : Int) + 1 by push_cast; rfl] at hdel
  have HDEL := Lib.hid hdel
  have HFIN := Lib.hid (show ∀ w2 : World, w2.ownsRow 0 63 1 (.slice (some ⟨g, 0, none⟩) k c) k ((L.map nval).eraseIdx i) → w.grownBy w2 (some g) →
      (w2.cell? ⟨n, 0, none⟩ = some (.slice (some ⟨g, 0, none⟩) L.length c) ∧ w2.frozen? ⟨n, 0, none⟩ = false) ∧
      ((∃ v', NtSt (w2.setCell ⟨n, 0, none⟩ (.slice (some ⟨g, 0, none⟩) k c)) n F v' (L.eraseIdx i)) ∧ Keeps (fun b => ¬ F b) w (w2.setCell ⟨n, 0, none⟩ (.slice (some ⟨g, 0, none⟩) k c))) from fun w2 ho hg => by
    have hk2 : Keeps (fun b => b ≠ g) w w2 := Keeps.of_grown hg fun b e _ hn => by injection e with e; exact hn e.symm
    have hb2 : NtBlk w2 n _ := h.blk.keep hk2 (fun e => hgF.2 e.symm)
    have hs : Keeps (fun b => b ≠ n) w2 (w2.setCell ⟨n, 0, none⟩ (.slice (some ⟨g, 0, none⟩) k c)) := (Keeps.refl _ _).setCell (.inr fun hh => hh rfl) _
    refine ⟨⟨hb2.cell, hb2.fz⟩, ⟨.slice (some ⟨g, 0, none⟩) k c, hb2.set _, ?_, h.fn, fun b e => h.fo b e, fun p hp => h.may p (List.mem_of_mem_eraseIdx hp), fun p hp => h.cap p (List.mem_of_mem_eraseIdx hp), fun p hp => ?_⟩, ?_⟩
    · rw [hlen2, ← map_erase]
      exact hs.own ho fun b e => by injection e with e; subst e; exact hgF.2
    · exact ((h.row p (List.mem_of_mem_eraseIdx hp)).keep (hk2.mono fun b _ hb e => hb.2.2 (by rw [e]; rfl))).keep (hs.mono fun b _ hb => hb.2.1)
    · exact (hk2.mono fun b _ hb e => hb (by rw [e]; exact hgF.1)).trans (hs.mono fun b _ hb e => hb (by rw [e]; exact h.fn)))
  have hi63 : i < 9223372036854775807 := by unfold maxLen at hc2; omega
  clear h hc1 hc2 hcell hgF hk hlen hlen2 hdel hi
  generalize L.length = q at *
  have hc := HC.out
  go_enter Tryd.func16, Tryd.ntmps16
  go_wp2_with fail
  refine HHAS.out.mono ?_
  rintro e w1 ⟨rfl, rfl⟩
  clear HHAS
  go_wp2_with fail
  refine HDEL.out.mono ?_
  rintro e w2 ⟨rfl, ho, hg⟩
  obtain ⟨⟨c2, f2⟩, h3⟩ := HFIN.out w2 ho hg
  have HR := Lib.hid h3
  clear HDEL HFIN ho hg h3 hc
  go_wp2_with fail
  go_ret
  exact ⟨rfl, HR.out⟩

end Go.Proofs.YtpijhpfcigjkeaaDoor
end

/-
  THE PROGRAM's NET (layer 20): Take.
-/
section
namespace Go.Proofs.YtpijhpfcigjkeaaDoor
open Go Go.RowKit Go.Joins

set_option maxRecDepth 100000 in
set_option maxHeartbeats 2000000 in
theorem ntake (w : World) (hT : Taken w) (n : Nat) (F : Nat → Prop) (v : Value) (L : List NP) (i : Nat) (hi : i < L.length) (h : NtSt w n F v L) (hlt : ∀ b, F b → b < w.heap.size) :
    Calls Tryd.prog 14 #[.pointer (some ⟨n, 0, none⟩), .int .i64 (i : Int)] w fun e w' =>
      (∃ a, e = .returned (.tuple #[msV L[i].1 a, .bool true]) ∧ MsIn w' L[i].1 a (fun b => w.heap.size ≤ b ∧ b < w'.heap.size)) ∧ (∃ v', NtSt w' n F v' (L.eraseIdx i)) ∧ Keeps (fun b => ¬ F b) w w' := by
  have HLOOK := Lib.hid (fun (W : World) (hk : Kp w W) => nlook W (hT.keep hk) n F v L i hi (h.keep (hk.mono fun _ _ _ => trivial)))
  have HDROP := Lib.hid (fun (W : World) (hk : Kp w W) => ndrop W n F v L i hi (h.keep (hk.mono fun _ _ _ => trivial)))
  have HLT := Lib.hid hlt
  generalize L[i].1 = m at *
  clear h hT hlt
  go_enter Tryd.func14, Tryd.ntmps14
  go_upto_region 1 with (refine list_allocM rfl rfl ?_; intro w1 hb1 hk1 hs1)
  obtain ⟨r, hr⟩ : ∃ r, w.heap.size = r := ⟨_, rfl⟩
  rw [hr] at hb1 hs1 ⊢
  have HB1 := Lib.hid hb1
  have HK1 := Lib.hid hk1
  have HG := Lib.hid hr
  clear hb1 hk1 hr
  go_wp2_with fail
  refine (HLOOK.out _ HK1.out).mono ?_
  rintro e w3 ⟨⟨a, rfl, hin, -⟩, hk3⟩
  obtain ⟨vM, hvM⟩ : ∃ v, msV m a = v := ⟨_, rfl⟩
  have HVM := Lib.hid hvM
  rw [hvM]
  have HK3 := Lib.hid (HK1.out.trans hk3)
  have HB3 := Lib.hid (HB1.out.kp hk3)
  have hgs3 : r < w3.heap.size := by have := hk3.size; omega
  have HIN := Lib.hid hin
  have hs13 := hk3.size
  clear hin hk3 hvM HLOOK HB1
  go_upto_region 2 with (first
    | (refine list_allocM rfl rfl ?_; intro w4 hb4 hk4 hs4)
    | (refine list_storeM rfl (.tmp 6) (.tmp 12) rfl _ ms0 m msA0 a hb4 rfl HVM.out.symm ?_; intro w5 hb5 hk5 hs5))
  obtain ⟨b, hb⟩ : ∃ b, w3.heap.size = b := ⟨_, rfl⟩
  rw [hb] at hb4 hb5 hk5 hs4 hgs3 hs13 ⊢
  have HM5 := Lib.hid hb5
  have hk35 : Kp w3 w5 := kp_behind hk4 hk5 (by omega)
  have HK35 := Lib.hid hk35
  have HK5 := Lib.hid (HK3.out.trans hk35)
  have HB5 := Lib.hid (HB3.out.kp hk35)
  have HBB := Lib.hid hb
  clear hb4 hk4 hs4 hb5 hk5 hs5 hk35 hb HB3
  go_wp2_with fail
  refine (HDROP.out _ HK5.out).mono ?_
  rintro e w6 ⟨rfl, ⟨v', hst⟩, hk6⟩
  have hnF : ∀ x, r ≤ x → ¬ F x := fun x hx hf => by have := HLT.out x hf; have := HG.out; omega
  have HNF := Lib.hid hnF
  have HST := Lib.hid hst
  have HK6 := Lib.hid hk6
  have HM6 := Lib.hid (HM5.out.keep hk6 (hnF b (by omega)))
  have HB6 := Lib.hid (HB5.out.keep hk6 (hnF r (Nat.le_refl _)))
  clear hst hk6 hnF HDROP HM5 HB5
  go_wp2_with (first
    | (refine list_loadM rfl (.tmp 6) rfl b _ _ HM6.out rfl vM HVM.out ?_)
    | (refine list_storeM rfl (.tmp 4) (.tmp 17) rfl r _ m _ a HB6.out rfl HVM.out.symm ?_; intro wz hbz hkz hsz))
  refine bodyPost_ret (v := .tuple #[msV m a, .bool true]) (results_cell2 rfl rfl rfl (run_loadM hbz)) rfl ?_
  have hkf : Keeps (fun x => w1.heap.size ≤ x ∧ x < w3.heap.size) w3 wz := ((HK35.out.mono fun _ _ _ => trivial).trans (HK6.out.mono fun x _ hx => HNF.out x (by omega))).trans (hkz.mono fun x _ hx => by omega)
  refine ⟨⟨a, rfl, (HIN.out.keep hkf).mono fun x hx hb => ⟨by have := HG.out; have := hb.1; omega, hx⟩⟩, ⟨v', HST.out.keep (hkz.mono fun x _ hf e => HNF.out r (Nat.le_refl _) (e ▸ hf))⟩, ?_⟩
  have h1 : Keeps (fun x => ¬ F x) w w6 := (HK5.out.mono fun _ _ _ => trivial).trans HK6.out
  exact ⟨hkz.os.trans h1.os, hkz.tape.trans h1.tape, hkz.output.trans h1.output, Nat.le_trans h1.size hkz.size, fun x hx hxl => (hkz.block x (by have := HG.out; omega) (Nat.lt_of_lt_of_le hxl h1.size)).trans (h1.block x hx hxl)⟩

set_option maxRecDepth 100000 in
set_option maxHeartbeats 1000000 in
theorem ntake_not (w : World) (p : Value) (i : Int) (h : ∀ W, Kp w W → Calls Tryd.prog 29 #[p, .int .i64 i] W fun e w' => e = .returned (.bool false) ∧ w' = W) :
    Calls Tryd.prog 14 #[p, .int .i64 i] w fun e w' => e = .returned (.tuple #[msV ms0 msA0, .bool false]) ∧ Kp w w' := by
  have HLOOK := Lib.hid (fun (W : World) (hk : Kp w W) => nlook_not W p i fun W2 hk2 => h W2 (hk.trans hk2))
  have HDROP := Lib.hid (fun (W : World) (hk : Kp w W) => ndrop_not W p i (h W hk))
  obtain ⟨vM, hvM⟩ : ∃ v, msV ms0 msA0 = v := ⟨_, rfl⟩
  have HVM := Lib.hid hvM
  rw [hvM] at HLOOK
  clear h hvM
  go_enter Tryd.func14, Tryd.ntmps14
  go_upto_region 1 with (refine list_allocM rfl rfl ?_; intro w1 hb1 hk1 hs1)
  obtain ⟨r, hr⟩ : ∃ r, w.heap.size = r := ⟨_, rfl⟩
  rw [hr] at hb1 hs1 ⊢
  have HB1 := Lib.hid hb1
  have HK1 := Lib.hid hk1
  have HG := Lib.hid hr
  clear hb1 hk1 hr
  go_wp2_with fail
  refine (HLOOK.out _ HK1.out).mono ?_
  rintro e w3 ⟨rfl, hk3⟩
  have HK3 := Lib.hid (HK1.out.trans hk3)
  have HB3 := Lib.hid (HB1.out.kp hk3)
  have hgs3 : r < w3.heap.size := by have := hk3.size; omega
  clear hk3 HLOOK HB1
  go_upto_region 2 with (first
    | (refine list_allocM rfl rfl ?_; intro w4 hb4 hk4 hs4)
    | (refine list_storeM rfl (.tmp 6) (.tmp 12) rfl _ ms0 ms0 msA0 msA0 hb4 rfl HVM.out.symm ?_; intro w5 hb5 hk5 hs5))
  obtain ⟨b, hb⟩ : ∃ b, w3.heap.size = b := ⟨_, rfl⟩
  rw [hb] at hb4 hb5 hk5 hs4 hgs3 ⊢
  have HM5 := Lib.hid hb5
  have hk35 : Kp w3 w5 := kp_behind hk4 hk5 (by omega)
  have HK5 := Lib.hid (HK3.out.trans hk35)
  have HB5 := Lib.hid (HB3.out.kp hk35)
  clear hb4 hk4 hs4 hb5 hk5 hs5 hk35 hb HB3
  go_wp2_with fail
  refine (HDROP.out _ HK5.out).mono ?_
  rintro e w6 ⟨rfl, rfl⟩
  clear HDROP
  go_wp2_with (first
    | (refine list_loadM rfl (.tmp 6) rfl b _ _ HM5.out rfl vM HVM.out ?_)
    | (refine list_storeM rfl (.tmp 4) (.tmp 17) rfl r _ ms0 _ msA0 HB5.out rfl HVM.out.symm ?_; intro wz hbz hkz hsz))
  refine bodyPost_ret (v := .tuple #[msV ms0 msA0, .bool false]) (results_cell2 rfl rfl rfl (run_loadM hbz)) rfl ?_
  exact ⟨rfl, kp_behind HK5.out hkz (by have := HG.out; omega)⟩

end Go.Proofs.YtpijhpfcigjkeaaDoor
end

/-
  THE PROGRAM's LOG keeps all that its walks ask: theSlog.
-/
import Derived.Test.YtgdbkmecfbkobaaDoorAllLogs
import Derived.Test.YtgdbkmecfbkobaaDoorSlgRead
namespace Go.Proofs.YtgdbkmecfbkobaaDoor
open Go Go.RowKit Go.Joins

/-- A log at block q of the program's. -/
def slogRep (w : World) (q : Nat) (Fs : Foot) (st : LSt) (s : SDev) : Prop :=
  ∃ (ks : List Seg) (b0 left : Nat) (tl : List UInt8) (K T : Value) (Es : List Value), LogAt w q Fs st.dev st.place st.segs ks ((b0 + ks.length) % st.segs) left st.next tl K T Es ∧ LogInv st ks b0 s.now ∧ Tip ks st.next left tl ∧ st.first = firstOf st.next ks
def slogDisk (st : LSt) (rows : List (List UInt8)) : Prop := ∃ ks b0, LogInv st ks b0 rows

theorem recs_at {w w' : World} {v : Value} {l : List (Nat × List UInt8)} (h : RecRow w' w.heap.size v l) : ∃ A c, v = .slice A l.length c ∧ RecsAt w' A (fun b => w.heap.size ≤ b ∧ b < w'.heap.size) l := by
  obtain ⟨vs, h1, h2, h3⟩ := h.ex
  rcases Nat.eq_zero_or_pos l.length with h0 | hp
  · obtain ⟨A, c, e⟩ := own_form h2
    exact ⟨A, c, e, fun hne => absurd (List.eq_nil_of_length_eq_zero h0) hne⟩
  · obtain ⟨g, c, rfl, hb, hlt⟩ := h2.form hp
    refine ⟨_, c, rfl, fun _ => ⟨g, 0, rfl, ⟨hb, hlt⟩, fun i hi => ?_⟩⟩
    have hc := recC_at l vs h1 i hi
    obtain ⟨B, d, e, hr⟩ := h3 i hi
    have c0 := h2.cells (g := g) rfl _ _ hc.1
    have c1 := h2.cells (g := g) rfl (i * 2 + 1) _ (hc.2.trans e)
    rw [WideShapes.add_plain, Nat.zero_add] at c0 c1
    refine ⟨by rw [Nat.zero_add]; exact c0, B, d, by rw [Nat.zero_add]; exact c1, hr.mono fun b hb' hb => ⟨hb.1, hb'⟩⟩
theorem LogAt.same {w : World} {q p i n sl left nx : Nat} {F : Foot} {ks : List Seg} {l l' : Seg} {tl : List UInt8} {K T : Value} {Es : List Value} (h : LogAt w q F p i n (ks ++ [l]) sl left nx tl K T Es) (h1 : l'.slot = l.slot) (h2 : l'.first = l.first) (h3 : l'.recs.length = l.recs.length) (h4 : endsC l'.recs = endsC l.recs) : LogAt w q F p i n (ks ++ [l']) sl left nx tl K T Es := by
  have hl : (ks ++ [l']).length = (ks ++ [l]).length := by simp
  have hlen := h.ends.len
  have hc : segC (ks ++ [l']) Es = segC (ks ++ [l]) Es := by
    obtain ⟨E0, E, rfl⟩ := snoc_of Es (fun e => by rw [e] at hlen; simp at hlen)
    have he : E0.length = ks.length := by simp at hlen; exact hlen
    rw [segC_append _ _ _ _ he, segC_append _ _ _ _ he]
    simp [segC, Seg.cells, h1, h2]
  refine ⟨h.blk, by rw [hl, hc]; exact h.row, ⟨by rw [hl]; exact hlen, fun j hj => ?_, h.ends.out, h.ends.two⟩, h.kq, h.tail, h.mq, h.mkk, h.me, h.lt, h.apart⟩
  have hh := h.ends.own j (by rw [← hl]; exact hj)
  by_cases hk : j < ks.length
  · rw [List.getElem_append_left hk] at hh ⊢; exact hh
  · have : j = ks.length := by simp at hj; omega
    subst this
    rw [List.getElem_concat_length rfl] at hh ⊢
    rw [h3, h4]; exact hh
theorem endsC_opened (rs : List LRec) : endsC (opened rs) = endsC rs ∧ (opened rs).length = rs.length := by
  by_cases h : rs = []
  · subst h; exact ⟨rfl, rfl⟩
  · obtain ⟨a, r, rfl⟩ := snoc_of rs h
    rw [openedL]
    refine ⟨?_, by simp⟩
    rw [endsC_snoc, endsC_snoc]
/-- What remains in the last sector. -/
theorem tail_drop (a b tl : List UInt8) (h : tl = a.drop (a.length / 53 * 53)) : (tl ++ b).drop ((tl ++ b).length / 53 * 53) = (a ++ b).drop ((a ++ b).length / 53 * 53) := by
  have htl : tl.length = a.length % 53 := by rw [h, List.length_drop]; omega
  have e : (a ++ b).drop (a.length / 53 * 53) = tl ++ b := by rw [List.drop_append_of_le_length (by omega), ← h]
  rw [← e, List.drop_drop]
  congr 1
  rw [List.length_drop, List.length_append]
  omega
theorem new_gap {W : World} (hT : Taken W) (F : Foot) (h : ∀ b, F.all b → W.heap.size ≤ b) : ¬ F.M 0 := fun hm => by
  have h1 : 0 < W.heap.size := World.block_lt_of_cell? W _ (hT 0 (by decide))
  have := h _ (.inl hm)
  omega
theorem base_next (full : Bool) (b0 n m g : Nat) (hg : g = if full then m - 1 else m) (hm : full = true → 1 ≤ m) : (baseN full b0 n + (g + 1)) % n = ((b0 + m) % n + 1) % n := by
  rw [Nat.mod_add_mod]
  cases full
  · rw [hg]; rfl
  · have := hm rfl
    unfold baseN
    rw [if_pos rfl, Nat.mod_add_mod, hg, if_pos rfl]
    congr 1; omega

/-- The setting of the next position, behind what a writing call leaves. -/
theorem went_next {w w1 : World} {q p i n sl left nx : Nat} {F F' Fs Fs' : Foot} {ks : List Seg} {tl : List UInt8} {K T : Value} {Es : List Value} (hq : Fs.M q) (_hl : LogAt w1 q Fs' p i n ks sl left nx tl K T Es) (_hd : ∀ s, DAt w1 p F' s → True) (h : Went w w1 F F' Fs Fs') (nx' : Nat) : Went w (w1.setCell ⟨q, 7, none⟩ (.int .i64 (nx' : Int))) F F' Fs Fs' :=
  ⟨h.ap, h.k.trans ((Keeps.refl _ w1).setCell (.inr fun hn => hn.2 hq) _), h.f1, h.f2, h.f3, h.f4⟩

end Go.Proofs.YtgdbkmecfbkobaaDoor

/-
  THE PROGRAM's CACHE keeps all that its walks ask: theFlash.
-/
import Derived.Test.YtoepgbpmcjnbmaaGreatDoorAllFlC
import Derived.Test.YtoepgbpmcjnbmaaGreatDoorAllSlgD
import Derived.Test.YtoepgbpmcjnbmaaGreatDoorAllIxC
namespace Go.Proofs.YtoepgbpmcjnbmaaGreatDoor
open Go Go.RowKit Go.Joins
theorem slog_past {w : World} {q : Nat} {F : Foot} {st : LSt} {s : SDev} (h : slogRep w q F st s) : st.first ≤ st.next ∧ ∀ r ∈ st.hist.take st.gone, r.pos < st.first := by
  obtain ⟨ks, b0, left, tl, K, T, Es, hl, h, ht, hf⟩ := h
  rw [hf]
  cases ks with
  | nil => exact ⟨Nat.le_refl _, fun r hr => h.next.2 r (List.mem_of_mem_take hr)⟩
  | cons sg ks =>
    have hfull := h.ch.full sg List.mem_cons_self
    have hend := h.ends sg List.mem_cons_self
    have hlen := List.length_pos_iff.2 hfull
    have hpos := (h.ch.ok sg List.mem_cons_self).pos 0 hlen
    refine ⟨by show sg.first ≤ _; unfold Seg.end_ at hend; omega, fun r hr => ?_⟩
    show r.pos < sg.first
    have hr2 := h.rise
    rw [← List.take_append_drop st.gone st.hist] at hr2
    have h3 := (List.pairwise_append.1 hr2).2.2 r hr (sg.recs[0]'hlen) (by
      rw [h.hist, List.flatMap_cons]
      exact List.mem_append_left _ (List.getElem_mem hlen))
    omega
def theSlog2 : Slog2 where
  toSlogOK := theSlog
  past := fun h => slog_past h
  first2 := fun w q Fs s st ⟨ks, b0, left, tl, K, T, Es, hl, h, htip, hfst⟩ => by
    refine (lfirst_any w q Fs st.dev st.place st.segs ks _ left st.next tl K T Es hl).mono ?_
    rintro e w' ⟨rfl, rfl⟩
    refine ⟨?_, rfl⟩
    rw [hfst]
    cases ks <;> rfl
  next2 := fun w q Fs s st ⟨ks, b0, left, tl, K, T, Es, hl, h, htip, hfst⟩ => by
    refine (lnext_any w q Fs st.dev st.place st.segs ks _ left st.next tl K T Es hl).mono ?_
    rintro e w' ⟨rfl, rfl⟩
    exact ⟨rfl, rfl⟩
  all2 := fun w p q F Fs s st hd hrep hdev hT hin => by
    subst hdev
    obtain ⟨ks, b0, left, tl, K, T, Es, hl, h, htip, hfst⟩ := hrep
    refine (lall_any w hT q Fs st.dev st.place st.segs ks _ left st.next tl K T Es hl F s hd h.good h.segs.2 hin h.ch.len).mono ?_
    rintro e w' ⟨v, rfl, hrr, hk⟩
    have e : st.recs = (ks.flatMap Seg.recs).map LRec.key := by unfold LSt.recs; rw [h.hist]
    rw [← e] at hrr
    obtain ⟨A, c, rfl, h1, h2, hA⟩ := recs_c hrr
    exact ⟨A, c, rfl, h1, h2, hA, hk⟩
theorem fm_start (p i n f x : Nat) (hx : x ≤ 1048576) : FM ⟨i, n, [], 0, 1⟩ ⟨p, i, n, [], 0, f, x⟩ [] :=
  ⟨rfl, fun p x hx => by simp at hx, ⟨[], [], rfl, .inl rfl, rfl, rfl, rfl⟩, rfl, rfl, Nat.zero_le _, by show x ≤ 1048576 * 1; omega, by show 1 ≤ 30000; decide⟩
theorem cb_of {S : Slog2} {I : IndexOK} {W w : World} {p q : Nat} {F Fs : Foot} {s : SDev} {st : FSt} (hd : DAt w p F s) (hr : flashRep S I w p q Fs st s) (ha : Apart F Fs) (hk : Keeps (fun _ => True) W w) (hF : ∀ b, F.all b → W.heap.size ≤ b) (hFs : ∀ b, Fs.all b → W.heap.size ≤ b) (hroom : st.place + 8 * st.segs ≤ s.now.length) : Cb S I W w p q F Fs s st :=
  ⟨hd, hr, ha, hk, hF, hFs, hroom⟩
def theFlash : FlashOK where
  T := fun w => theSlog2.T w ∧ theIndex.T w ∧ theItems.T w
  tk := fun h hk => ⟨theSlog2.tk h.1 hk, theIndex.tk h.2.1 hk, theItems.tk h.2.2 hk⟩
  hash := hashN
  hashLt := hashN_lt
  rof := fun w b s hs hc => by
    rw [hashN_cast]
    refine (rof_any [s] b 0 1 w (show 1 ≤ maxLen by decide) (by intro x hx; simp at hx; rw [hx]; unfold maxLen; omega)
      (fun i hi => by have hi0 : i = 0 := by simpa using hi
                      subst hi0; exact hc)).mono ?_
    rintro e w' ⟨rfl, rfl⟩
    exact ⟨rfl, Keeps.refl _ _⟩
  rep := fun w p q Fs st s => flashRep theSlog2 theIndex w p q Fs st s
  disk := fun st rows => flashDisk theSlog2 st rows
  wf := fun h => frep_wf h
  lt := fun h => frep_lt h
  keep := fun h hk => frep_keep h hk
  other := fun h h1 h2 => frep_other h h1 h2
  diskKeep := fun h h1 h2 => fdisk_keep h h1 h2
  openNew := fun w p F s hd hT i n h3 hn hin hb => by
    refine copen theSlog2 theIndex theItems w hT p F s ⟨i, n, [], 0, 1⟩ hd i n hin (by show 1 ≤ 30000; decide) ((theSlog.openNew w p F s hd hT.1 i n h3 hn hin hb).mono ?_)
    rintro e w' ⟨q, Fs, f, x, rfl, hr, hx, hF, hk⟩
    exact ⟨q, Fs, _, [], rfl, hr, rfl, fm_start p i n f x hx, hF, hk⟩
  openOld := fun w p F s st hd hT hdk hroom hage => by
    obtain ⟨lst, hs, hD, hm⟩ := hdk
    have e1 : (Value.int .i64 (st.place : Int)) = .int .i64 (lst.place : Int) := by rw [hm.place]
    have e2 : (Value.int .i64 (st.segs : Int)) = .int .i64 (lst.segs : Int) := by rw [hm.segs]
    refine copen theSlog2 theIndex theItems w hT p F s ⟨st.place, st.segs, fopened st.ents, st.gone, st.age + 1⟩ hd st.place st.segs hroom (by show st.age + 1 ≤ 30000; omega) ?_
    rw [e1, e2]
    refine (theSlog.openOld w p F s lst hd hT.1 hD (by rw [hm.place, hm.segs]; exact hroom) (by have := hm.next; omega)).mono ?_
    rintro e w' ⟨q, Fs, f, x, rfl, hr, hx, hF, hk⟩
    exact ⟨q, Fs, _, hs, rfl, hr, rfl, hm.opened hx (by omega), hF, hk⟩
  openNo := fun w p F s hd hT i n h1 h2 h3 h4 hno => copenNo w _ _ _ (theSlog.openNo w p F s hd hT.1 i n h1 h2 h3 h4 hno)
  put := fun W w p q F Fs s st hd hr ha hT hk hF hFs hroom hage hcl x hm hg => cput theSlog2 theIndex theItems W w hT p q F Fs s st (cb_of hd hr ha hk hF hFs hroom) hage hcl x hm hg
  putNo := fun w p q F Fs s st hd hr ha hT hroom x hf hno => cputNo theSlog2 theIndex theItems w hT.2.2 p q Fs s st hr x hf hno
  get := fun w p q F Fs s st hd hr ha hT hroom k now hk h1 h2 => cget theSlog2 theIndex theItems w hT p q F Fs s st hd hr ha hroom (frep_age hr) k now hk h1 h2
  drop := fun W w p q F Fs s st hd hr ha hT hk hF hFs hroom hage hcl A c ks hrow hlc hcm hl hok => cdrop theSlog2 theIndex theItems W w hT p q F Fs s st (cb_of hd hr ha hk hF hFs hroom) hage hcl A c ks hrow hlc hcm hl hok
  dropNo := fun w p q F Fs s st hd hr ha hT hroom A c ks hrow hlc hcm hl hsz hno => cdropNo theSlog2 theIndex theItems w hT.2.2 p q Fs s st hr A c ks hrow hlc hcm hl hsz hno
  flush := fun W w p q F Fs s st hd hr ha hT hk hF hFs hroom hage hcl => by
    refine (cflush theSlog2 theIndex W w hT.1 p q F Fs s st (cb_of hd hr ha hk hF hFs hroom) (by omega)).mono ?_
    rintro e w' ⟨rfl, F', Fs', rows, k, hd', hr', hgo⟩
    obtain ⟨h1, h2⟩ := hr' (st.age + 1) (Nat.le_succ _) (by omega)
    exact ⟨rfl, F', Fs', rows, k, hd', h1, h2, hgo⟩
  wipe := fun W w p q F Fs s st hd hr ha hT hk hF hFs hroom hage hcl => cwipe theSlog2 theIndex theItems W w hT p q F Fs s st (cb_of hd hr ha hk hF hFs hroom) hage hcl
  keys := fun w p q F Fs s st hd hr ha hT hroom => ckeys theSlog2 theIndex w hT.2.1 p q Fs s st hr (frep_age hr)
  between := fun w p q F Fs s st hd hr ha hT hroom lo hi after n h1 h2 h3 h4 => cbetween theSlog2 theIndex theItems w hT p q F Fs s st hd hr ha hroom (frep_age hr) lo hi after n h1 h2 h3 h4
  putNil := cputNil
  getNil := cgetNil
  dropNil := fun w v _ => cdropNil w v
  flushNil := cflushNil
  wipeNil := cwipeNil
  keysNil := fun w => by
    refine (ckeysNil w).mono ?_
    rintro e w' ⟨rfl, hk⟩
    exact ⟨⟨_, _, rfl⟩, hk⟩
  betweenNil := fun w lo hi k n _ _ => cbetweenNil w lo hi k n
end Go.Proofs.YtoepgbpmcjnbmaaGreatDoor

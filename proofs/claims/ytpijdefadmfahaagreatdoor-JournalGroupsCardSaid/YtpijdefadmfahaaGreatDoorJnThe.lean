/-
  THE PROGRAM's JOURNAL keeps what the face of layer 10 says: theJournal.
-/
import Derived.Test.YtpijdefadmfahaaGreatDoorAllJnC
import Derived.Test.YtpijdefadmfahaaGreatDoorAllJnB
import Derived.Test.YtpijdefadmfahaaGreatDoorAllSlgD
namespace Go.Proofs.YtpijdefadmfahaaGreatDoor
open Go Go.RowKit Go.Joins
theorem jage {S : Slog2} {w : World} {p q : Nat} {Fs : Foot} {st : JSt} {s : SDev} (h : jrep S w p q Fs st s) : st.age ≤ 30000 := by
  obtain ⟨lq, Fl, v, lst, rfl, hc, hm⟩ := h
  exact hm.old
def theJournal : JournalOK where
  T := theSlog2.T
  tk := fun h hk => theSlog2.tk h hk
  rep := fun w p q Fs st s => jrep theSlog2 w p q Fs st s
  disk := fun st rows => jdisk theSlog2 st rows
  wf := fun h => jrep_wf h
  lt := fun h => jrep_lt h
  keep := fun h hk => jrep_keep h hk
  other := fun h h1 h2 => jrep_other h h1 h2
  diskKeep := fun h h1 h2 => jdisk_keep h h1 h2
  openNew := fun w p F s hd hT i n h3 hn hin hb => by
    refine jopen theSlog2 w hT p F s ⟨i, n, [], 0, 32, 1⟩ hd i n h3 (by omega) hin ((theSlog.openNew w p F s hd hT i n (by omega) hn hin hb).mono ?_)
    rintro e w' ⟨q, Fs, f, x, rfl, hr, hx, hF, hk⟩
    exact ⟨q, Fs, _, rfl, hr, rfl, JM.start p i n f x ⟨h3, hn⟩ hx, hF, hk⟩
  openOld := fun w p F s st hd hT hdk hroom hage => by
    obtain ⟨lst, hD, hm⟩ := hdk
    have e1 : (Value.int .i64 (st.place : Int)) = .int .i64 (lst.place : Int) := by rw [hm.place]
    have e2 : (Value.int .i64 (st.segs : Int)) = .int .i64 (lst.segs : Int) := by rw [hm.segs]
    refine (jopen theSlog2 w hT p F s ⟨st.place, st.segs, st.keys, st.base, st.kept - 4, st.age + 1⟩ hd st.place st.segs hm.many.1 (by have := hm.many.2; omega) hroom ?_).mono ?_
    · rw [e1, e2]
      refine (theSlog.openOld w p F s lst hd hT hD (by rw [hm.place, hm.segs]; exact hroom) (by have := hm.next; omega)).mono ?_
      rintro e w' ⟨q, Fs, f, x, rfl, hr, hx, hF, hk⟩
      rw [hm.place, hm.segs] at hr
      exact ⟨q, Fs, _, rfl, hr, rfl, hm.opened hx (by omega), hF, hk⟩
    · rintro e w' ⟨q, Fs, rfl, hr, hF, hk⟩
      exact ⟨q, Fs, st.base, rfl, hr, hF, hk⟩
  openNo := fun w p F s hd hT i n h1 h2 h3 h4 hno => jopen_no w _ _ n fun h20 => theSlog.openNo w p F s hd hT i n h1 h2 h3 h4 (by omega)
  add := fun W w p q F Fs s st hd hr ha hT hk hF hFs hroom hage hcl A c ks hrow hlc hcm hl hok => jadds theSlog2 W w hT p q F Fs s st ⟨hd, hr, ha, hk, hF, hFs, hroom⟩ hage hcl A c ks.length ks rfl hrow hlc hcm hl hok
  addNo := fun w p q F Fs s st hd hr ha hT hroom A c ks hrow hlc hcm hl hsz hno => jadds_no theSlog2 w p q Fs s st hr A c ks.length ks rfl hrow hlc hcm hl hsz hno
  seqIs := fun w p q Fs s st hr _ => jseq_is theSlog2 w p q Fs s st hr
  baseIs := fun w p q Fs s st hr _ => jbase_is theSlog2 w p q Fs s st hr
  since := fun w p q F Fs s st hd hr ha hT hroom sq n h8 h9 hn => jsince theSlog2 w hT p q F Fs s st hd hr ha hroom sq n h8 h9 hn
  sinceNo := fun w p q F Fs s st hd hr ha hT hroom sq n h8 h9 hno => jsince_no theSlog2 w p q Fs s st hr sq n hno
  addNil := fun w v _ => jadd_nil w v
  sinceNil := jsince_nil
  seqNil := jseq_nil
  baseNil := jbase_nil
theorem jtaken {W : World} (h : Taken W) : theJournal.T W := h
end Go.Proofs.YtpijdefadmfahaaGreatDoor

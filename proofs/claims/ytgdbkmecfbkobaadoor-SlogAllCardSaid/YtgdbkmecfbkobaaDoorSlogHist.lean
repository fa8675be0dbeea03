/-
  WHAT A LOG KEEPS, in plain words: what was appended, how often it was opened behind each, how much of it is gone. It imports nothing of the program.
-/
namespace Go.Proofs.YtgdbkmecfbkobaaDoor

/-- One that was appended: its position, its body, how often the log was opened behind it, ahead of the next one. -/
structure LRec where
  pos : Nat
  body : List UInt8
  opens : Nat
  deriving Inhabited
def LRec.key (r : LRec) : Nat × List UInt8 := (r.pos, r.body)
def LRec.cost (r : LRec) : Nat := r.body.length + 60 + 400 * r.opens
/-- How much the records count. -/
def costs (l : List LRec) : Nat := (l.map LRec.cost).sum
/-- The log was opened. -/
def opened : List LRec → List LRec
  | [] => []
  | [r] => [⟨r.pos, r.body, r.opens + 1⟩]
  | r :: l => r :: opened l

/-- A log: where; what was appended; how many of these are gone; its first and next positions. -/
structure LSt where
  dev : Nat
  place : Nat
  segs : Nat
  hist : List LRec
  gone : Nat
  first : Nat
  next : Nat
def LSt.recs (st : LSt) : List (Nat × List UInt8) := (st.hist.drop st.gone).map LRec.key
/-- It is in the log's segments. -/
def LSt.has (st : LSt) (i : Nat) : Prop := st.place ≤ i ∧ i < st.place + 8 * st.segs
structure LSt.Ok (st : LSt) : Prop where
  segs : 3 ≤ st.segs ∧ st.segs ≤ 200
  one : ∀ r ∈ st.hist, 1 ≤ r.pos ∧ 1 ≤ r.body.length ∧ r.body.length ≤ 300
  rise : st.hist.Pairwise (·.pos < ·.pos)
  gone : st.gone ≤ st.hist.length
  kept : ∀ i, i ≤ st.hist.length → costs (st.hist.drop i) ≤ 200 * (st.segs - 2) → st.gone ≤ i
  next : 1 ≤ st.next ∧ ∀ r ∈ st.hist, r.pos < st.next
  first : ∀ r ∈ st.hist.drop st.gone, st.first ≤ r.pos
  small : st.next ≤ 1099511627776


end Go.Proofs.YtgdbkmecfbkobaaDoor

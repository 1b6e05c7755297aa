import Derived.Test.YtokfiflflcfidaaPsD
namespace Go.Proofs.Ytokfiflflcfidaa
open Go.RowKit

/-- the number of the last line -/
def psN (s : List UInt8) : Nat := (spS 10 s).length - 1
def psC (s : List UInt8) : List (List Q4) := thrs 0 (((spS 10 s).take (psN s)).drop 1)
def psW (s : List UInt8) : List Q4 := wntR ((spS 10 s)[1 + (psC s).length]?.getD [])
def psNm (s : List UInt8) : List UInt8 := nmR ((spS 10 s)[0]?.getD [])
def psOk (s : List UInt8) : Bool :=
  decide (1 ≤ psN s) && nmB ((spS 10 s)[0]?.getD []) && decide (1 + (psC s).length < psN s) && decide (0 < (psC s).length) && wntB (psC s).length ((spS 10 s)[1 + (psC s).length]?.getD []) && decide (2 + (psC s).length = psN s) && ((spS 10 s)[psN s]?.getD [] == [])
def psAt (s : List UInt8) : Nat :=
  if psN s < 1 then 0 else if nmB ((spS 10 s)[0]?.getD []) = false then 0 else if psN s ≤ 1 + (psC s).length ∨ (psC s).length = 0 then 1 + (psC s).length
  else if wntB (psC s).length ((spS 10 s)[1 + (psC s).length]?.getD []) = false then 1 + (psC s).length else if 2 + (psC s).length ≠ psN s ∨ (spS 10 s)[psN s]?.getD [] ≠ [] then 2 + (psC s).length else 0

end Go.Proofs.Ytokfiflflcfidaa

/-
  CyclicSays, walked for the landed code.
-/
import Derived.Test.YtlpnopliblaknaaDoorCyFin
import Derived.Test.YtlpnopliblaknaaDoorCySaysY
namespace Go.Proofs.YtlpnopliblaknaaDoor
open Go.RowKit
open Ln Cy

theorem cyAnyC : CyAnyC where
  check := fun h => cyCheck_any _ _ h
  putBy := fun {s y w} hs hy h => by
    have := cyPut_no (w := w) hs hy (by rw [cyE_by h]; exact h)
    rwa [cyE_by h] at this
  putNo := fun {s b w} hs hb h => by
    have := cyPut_no (w := w) hs (tx_max (by have := hb.hi; omega)) (cyE_bad hb h)
    rwa [cyE_no hb h] at this
  getBy := fun {s y w} hs hy h => by
    have := cyGet_no (w := w) hs hy (by rw [cyE_by h]; exact h)
    rwa [cyE_by h] at this
  getNo := fun {s b w} hs hb h => by
    have := cyGet_no (w := w) hs (tx_max (by have := hb.hi; omega)) (cyE_bad hb h)
    rwa [cyE_no hb h] at this
  getShort := fun hb h => cyGet_short hb h

theorem cyclicSays_walk (s y : ByteArray) (w : World) (hs : s.size ≤ maxLen) (hy : y.size ≤ maxLen) :
    Calls Tryd.prog 3 #[.string s, .string y] w (Says (.bool true) w) :=
  cyclicSays_of cyPutC cyGetC cyAnyC s y w hs hy

end Go.Proofs.YtlpnopliblaknaaDoor

/- The program's seven functions give what is asked of them. -/
import Derived.Test.YtieoegodhhiiiaaPchk
namespace Go.Proofs.Ytieoegodhhiiiaa.Psvn
open Go.Proofs.Ytieoegodhhiiiaa.Lsev Go.Proofs.Ytieoegodhhiiiaa.Pchk Go.Proofs.Ytieoegodhhiiiaa.Ppar Go.Proofs.Ytieoegodhhiiiaa.Pbas Go.Proofs.Ytieoegodhhiiiaa.Lfew

theorem seven : Seven (fun _ => True) where
  keep := fun _ _ _ _ => trivial
  chk := fun L _ _ _ _ _ w h _ hf => check_any L w h hf
  jnd := fun L p _ _ _ _ _ w h _ _ _ _ => joined_any L p w h
  sgl := fun L p _ _ _ _ _ w h _ _ _ _ => signal_any L p w h
  sct := fun L i _ _ _ _ _ w h _ _ _ _ => section_any L (i : Int) w h
  mem := fun L s _ _ _ _ _ w h _ hf _ hs => members_any L s w h (by have := (few_yes hf).2.1; omega) hs
  pts := fun L _ _ _ _ _ w h _ hf _ => points_any L w h (by have := (few_yes hf).2.1; omega)
  elm := fun L n _ _ _ _ _ w h _ _ _ _ => element_any L n w h

end Go.Proofs.Ytieoegodhhiiiaa.Psvn

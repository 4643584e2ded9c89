import Derived.Test.YtffhpoilifgcdaaDoorVaa
namespace Go.Proofs.YtffhpoilifgcdaaDoor
open Go.RowKit
theorem tHid {p : Prop} (h : p) : Hid p := h
end Go.Proofs.YtffhpoilifgcdaaDoor

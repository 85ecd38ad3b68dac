/- THE PROGRAM's CHAPTER OF COLOURS: its six functions, each told in the model's words. -/
import Derived.Test.YtppelmceojodhaaDoorICol6
import Derived.Test.YtppelmceojodhaaDoorICol8

/- THE PROGRAM's CHAPTER OF COLOURS: its six functions, each told in the model's words. -/
import Derived.Test.YtppelmceojodhaaICol6
import Derived.Test.YtppelmceojodhaaICol8

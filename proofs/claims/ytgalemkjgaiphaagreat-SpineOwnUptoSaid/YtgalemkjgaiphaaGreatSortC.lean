/- Nothing sorts counts in this program. -/
import Derived.Test.YtgalemkjgaiphaaGreatSortU

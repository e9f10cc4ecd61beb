"""A carriage on its track: its turn, its place, and how far it has been."""

LEAST_PLACE = -1073741824
GREATEST_PLACE = 1073741824

# By a, then by b: only one signal changes between a turn and the next.
TURNS = ((0, 1), (3, 2))

DONE = 0
SAME = 0
ON = 1
BACK = 2
NOT_KNOWN = -5
WRONG = -22


def are_signals(a, b):
    return a <= 1 and b <= 1


def is_place(at):
    return LEAST_PLACE <= at and at <= GREATEST_PLACE


class Carriage:
    def __init__(self):
        self.known = False
        self.turn = 0
        self.place = 0
        self.least = 0
        self.greatest = 0

    def start(self, a, b, at):
        if not are_signals(a, b) or not is_place(at):
            return WRONG
        self.known = True
        self.turn = TURNS[a][b]
        self.place = at
        self.least = at
        self.greatest = at
        return DONE

    def signals(self, a, b):
        if not are_signals(a, b):
            return WRONG
        if not self.known:
            return NOT_KNOWN
        turn = TURNS[a][b]
        apart = (turn - self.turn) % 4
        if apart == 0:
            return SAME
        if apart == 1:
            return self.move(turn, self.place + 1, ON)
        if apart == 3:
            return self.move(turn, self.place - 1, BACK)
        return self.lose()

    def move(self, turn, place, answer):
        if not is_place(place):
            return self.lose()
        self.turn = turn
        self.place = place
        self.least = min(self.least, place)
        self.greatest = max(self.greatest, place)
        return answer

    def lose(self):
        # Only a start can tell the place again, so what else is kept no longer matters.
        self.known = False
        return NOT_KNOWN

    def where(self):
        if not self.known:
            return [NOT_KNOWN]
        return [DONE, self.place, self.least, self.greatest]
